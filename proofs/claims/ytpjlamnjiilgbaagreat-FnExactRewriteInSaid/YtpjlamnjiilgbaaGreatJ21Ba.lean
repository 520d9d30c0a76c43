import Derived.Laws.StructEq
import Derived.Deep.LoopGhost
import Derived.Deep.Cut
import Derived.WalkKit
import Derived.ProofKit
import Derived.RegionTactic
import Derived.BigRegion
import Derived.Test.YtpjlamnjiilgbaaGreatJ19Ba
import Derived.Test.YtpjlamnjiilgbaaGreatJ20Ba
import Derived.Test.YtpjlamnjiilgbaaGreatJ1Ba
import Derived.Test.YtpjlamnjiilgbaaGreatCtn
import Derived.Test.YtpjlamnjiilgbaaGreatJ2Ba
import Derived.Test.YtpjlamnjiilgbaaGreatJ17Ba
import Derived.Test.YtpjlamnjiilgbaaGreatJ0Ba
import Derived.Test.YtpjlamnjiilgbaaGreatJ4Ba
import Derived.Test.YtpjlamnjiilgbaaGreatRows
namespace Go.Proofs.YtpjlamnjiilgbaaGreat
open Go.RowKit Go.Maps
set_option linter.unusedVariables false
set_option linter.unusedSimpArgs false
def LwTree (w : World) (r s : Int) (es : List Ed) (e : Ending) (w' : World) : Prop :=
 (isFo r s es = true ∧ ∃ v, e = .returned (.tuple #[v, .bool true]) ∧ ReadE w'.heap.size w' v ((foundA r es 0).map (·.1)) ∧ Below w.heap.size w w') ∨ (isFo r s es = false ∧ e = .returned (.tuple #[.slice none 0 0, .bool false]) ∧ Below w.heap.size w w')
set_option maxRecDepth 100000 in
set_option maxHeartbeats 3200000 in
theorem treeIn_any (w : World) (r s : Int) (v : Value) (es : List Ed) (h : ReadE w.heap.size w v es) (hl : es.length ≤ 10000000) :
 Calls Tryz.prog 54 #[.agg #[.int .i64 r, .int .i64 s, v]] w (LwTree w r s es) := by
 obtain ⟨a, cap, rfl, hnc⟩ := h.form
 obtain ⟨n, hn⟩ := exq es.length
 rw [← hn] at hl hnc ⊢
 rw [← hn] at h
 obtain ⟨w1, hw1⟩ := exq (w.alloc (.cells #[.int .i64 r, .int .i64 s, .slice a n cap] 26))
 have hb1 : Below w.heap.size w w1 := by rw [hw1]; exact (Below.refl _ _).alloc (Nat.le_refl _) _
 have hs1 : w.heap.size < w1.heap.size := by rw [hw1]; simp
 obtain ⟨g0, g1, g2⟩ := box3 hw1
 have hcf := folded_any w1 r s (.slice a n cap) es ((h.below hb1).mono hb1.size) (by omega)
 have hno : isFo r s es = false → ∀ W : World, Below w.heap.size w W → LwTree w r s es (.returned (.tuple #[.slice none 0 0, .bool false])) W := fun h W hW => .inr ⟨h, rfl, hW⟩
 have hyes : isFo r s es = true → ∀ (W : World) (v : Value), ReadE W.heap.size W v ((foundA r es 0).map (·.1)) → Below w.heap.size w W → LwTree w r s es (.returned (.tuple #[v, .bool true])) W := fun h W v h1 h2 => .inl ⟨h, v, rfl, h1, h2⟩
 replace hno := hidI hno
 replace hyes := hidI hyes
 replace hn := hidI hn
 replace h := hidI h
 have hw1' := hidI hw1.symm
 replace hw1 := hidI hw1
 go_enter Tryz.func54, Tryz.ntmps54
 go_upto_region 1 with fail
 rw [hw1'.out]
 go_wp2_with fail
 refine hcf.mono ?_
 rintro e w2 (⟨hf, bm, rfl, hlb, hlb2, hmap, hb2⟩ | ⟨hf, rfl, hb2⟩)
 case inr =>
  clear hcf
  have hfin := hidI (hno.out hf w2 (hb1.trans (hb2.mono hb1.size)))
  replace hf := hidI hf
  go_wp2
  go_ret2
  exact hfin.out
 clear hcf
 replace g0 := below_cell g0 hb2 hs1
 have hb12 := hidI (hb1.trans (hb2.mono hb1.size))
 clear hb2 g1 g2
 have hlim := fo_lim hf
 obtain ⟨rN, rfl⟩ : ∃ k : Nat, r = (k : Int) := ⟨r.toNat, by omega⟩
 obtain ⟨sN, rfl⟩ : ∃ k : Nat, s = (k : Int) := ⟨s.toNat, by omega⟩
 have hsr := search_any w2 rN sN 0 bm es hf hmap hlb2 (by omega)
 rw [show (((0 : Nat) : Int)) = 0 from rfl] at hsr
 have hfin := hyes.out hf
 obtain ⟨F, hF⟩ := exq ((foundA (rN : Int) es 0).map (·.1))
 rw [← hF] at hsr hfin
 replace hfin := hidI hfin
 replace hF := hidI hF
 replace hf := hidI hf
 replace hmap := hidI hmap
 replace hlim := hidI hlim
 go_wp2_with fail
 refine hsr.mono ?_
 rintro e w4 ⟨vF, rfl, hread, hb4⟩
 have hr := hidI (hfin.out w4 vF hread (hb12.out.trans (hb4.mono hb12.out.size)))
 clear hsr hread hb4
 go_wp2
 go_ret2
 exact hr.out
theorem trA_take {S : List Ar} {k : Nat} (h : k + 1 < S.length) : (trA S).take (k + 1) = (trA S).take k ++ [eA S (k + 1)] := by
 have hl : k < (trA S).length := by rw [trA_length]; omega
 rw [List.take_add_one, List.getElem?_eq_getElem hl, ← trA_at h, List.getD_eq_getElem?_getD, List.getElem?_eq_getElem hl]
 rfl
set_option maxRecDepth 100000 in
set_option maxHeartbeats 6400000 in
theorem edges_any (w : World) (s : Nat) (u : Int) (vF : Value) (S : List Ar) (h : ReadE w.heap.size w vF (S.map (·.1))) (hgood : GoodA s u S) (hnd : (vts S).Nodup) (hl40 : S.length ≤ 40) :
 Calls Tryz.prog 89 #[vF] w (LwEdges w (putAll [] (trA S))) := by
 obtain ⟨aF, capF, rfl, hnc⟩ := h.form
 have hlm : (S.map (·.1)).length = S.length := List.length_map _
 rw [hlm] at h hnc ⊢
 have hpos := hgood.pos
 obtain ⟨n, hn⟩ := exq S.length
 rw [← hn] at hnc hpos hl40 h ⊢
 obtain ⟨bF, oF, rfl, hBF, -⟩ := ReadE.at3 h 0 (by rw [hlm]; omega)
 obtain ⟨F, hF⟩ := exq (putAll [] (trA S))
 rw [← hF]
 have htl := trA_length S
 rw [← hn] at htl
 have hst0 : Hid (OwnsE w w.heap.size (.slice none 0 0) ((trA S).take 0)) := hidI (OwnsS.nil _ _)
 have hp1 : 0 ≤ (1 : Int) ∧ (1 : Int) ≤ (n : Int) := by omega
 replace hn := hidI hn
 replace hlm := hidI hlm
 replace hF := hidI hF
 replace h := hidI h
 replace hgood := hidI hgood
 replace hnd := hidI hnd
 replace htl := hidI htl
 by_cases hc1 : capF = 1
 case pos =>
  obtain rfl : n = 1 := by omega
  subst hc1
  have hzF : F = [] := by
   have : trA S = [] := List.length_eq_zero_iff.1 (by rw [htl.out])
   rw [hF.out, this]; rfl
  go_enter Tryz.func89, Tryz.ntmps89
  go_wp2
  go_loopg [3, 5, 9] 0 (fun g u3_ u5_ u9_ wr => u3_ = .slice none 0 0 ∧ u9_ = .int .i64 0 ∧ Hid (wr = w))
  case atStart => exact ⟨rfl, rfl, hidI rfl⟩
  case round =>
   obtain ⟨rfl, rfl, hwr⟩ := hrel
   have hwr' := hwr.out.symm
   subst hwr'
   have hsort := sort_all w w.heap.size (.slice none 0 0) [] (OwnsS.nil _ _) (Nat.le_refl _) (by simp)
   go_wp2_with fail
   refine hsort.mono ?_
   rintro e w5 ⟨rfl, hb5, ds, hp, hs, hown5⟩
   have hds : ds = [] := List.Perm.eq_nil hp
   subst hds
   have hr := hidI (show LwEdges w F (.returned (.slice none 0 0)) w5 from hzF ▸ lwEdges_owns (OwnsS.nil _ _) hb5 (Nat.le_refl _) (by simp))
   clear hsort hp hs hown5 hb5
   replace hzF := hidI hzF
   go_wp2
   go_ret
   exact hr.out
 go_enter Tryz.func89, Tryz.ntmps89
 go_wp2
 go_loopg [3, 5, 9] (n - 1) (fun g u3_ u5_ u9_ wr => ∃ k : Nat, k + g = n - 1 ∧ u9_ = .int .i64 k ∧ Hid (OwnsE wr w.heap.size u3_ ((trA S).take k)) ∧ Hid (Below w.heap.size w wr))
 case atStart => exact ⟨0, by omega, rfl, hst0, hidI (Below.refl _ _)⟩
 case round =>
  clear hst0
  obtain ⟨k, hk, rfl, hst, hb⟩ := hrel
  have hsz := hb.out.size
  obtain ⟨ua, um, uc, rfl⟩ := OwnsS.form3 hst.out
  by_cases hlt : k < n - 1
  · have hki : (k : Int) < ((n - 1 : Nat) : Int) := by omega
    have hjl : k + 1 < S.length := by have := hn.out; omega
    obtain ⟨b, off, hab, hBb, x0, x1, x2⟩ := ReadE.at3 (h.out.below hb.out) (k + 1) (by rw [hlm.out]; exact hjl)
    simp only [Option.some.injEq, Addr.mk.injEq, and_true] at hab
    obtain ⟨rfl, rfl⟩ := hab
    obtain ⟨bq, hbq, hbef, -⟩ := hgood.out.back (k + 1) (by omega) hjl
    have hlet := hgood.out.lets (k + 1) hjl
    obtain ⟨b, off, hab, -, xb, -, -⟩ := ReadE.at3 (h.out.below hb.out) bq (by rw [hlm.out]; omega)
    simp only [Option.some.injEq, Addr.mk.injEq, and_true] at hab
    obtain ⟨rfl, rfl⟩ := hab
    rw [getD_map1] at x0 x1 x2 xb
    rw [hbef] at x2
    have hnx : (trA S).take (k + 1) = (trA S).take k ++ [eB (S.getD bq d0).1.1 (S.getD (k + 1) d0).1.2.1 (S.getD (k + 1) d0).1.1] := by
     rw [trA_take hjl]; unfold eA; rw [hbef, Int.toNat_natCast]
    obtain ⟨y, hy⟩ := exq ((S.getD (k + 1) d0).1.1)
    obtain ⟨l, hll⟩ := exq ((S.getD (k + 1) d0).1.2.1)
    obtain ⟨x, hx⟩ := exq ((S.getD bq d0).1.1)
    rw [← hy] at x0 hnx
    rw [← hll] at x1 hnx hlet
    rw [← hx] at xb hnx
    obtain ⟨ef, el, et, hee⟩ : ∃ f l' t, eB x l y = (f, l', t) := ⟨_, _, _, rfl⟩
    obtain ⟨TK, hTK⟩ := exq ((trA S).take k)
    have hTKl : TK.length ≤ 40 := by rw [hTK, List.length_take]; omega
    rw [← hTK] at hst
    obtain ⟨w4, hw4⟩ := exq (wr.alloc (.cells #[.int .i64 y, .int .i64 l, .int .i64 (bq : Int)] 129))
    have hb4 : Below wr.heap.size wr w4 := by rw [hw4]; exact (Below.refl _ _).alloc (Nat.le_refl _) _
    have hs4 : w4.heap.size = wr.heap.size + 1 := by rw [hw4]; simp
    obtain ⟨c0, c1, c2⟩ := box3 hw4
    obtain ⟨wd, hwd⟩ := exq w4.drew
    have hbd : Below w4.heap.size w4 wd := by rw [hwd]; exact below_dn (Below.refl _ _) 1
    have hsd : wd.heap.size = w4.heap.size := by rw [hwd]; rfl
    have cb := below_cell xb hb4 (by omega)
    replace c0 := below_cell c0 hbd (by omega)
    replace c1 := below_cell c1 hbd (by omega)
    replace c2 := below_cell c2 hbd (by omega)
    replace cb := below_cell cb hbd (by omega)
    have hown4 : Hid (OwnsE w4 w.heap.size (.slice ua um uc) TK) := hidI (OwnsS.later hst.out hb4 (Nat.le_refl _))
    have hvk : Hid (∀ q, (Value.slice ua um uc).ownBlock = some q → w.heap.size ≤ q ∧ q < wr.heap.size) := hidI (fun q hq => World.ownsRow.lt hst.out q hq)
    have hcall := between_edge wd x l y (by omega) (by omega)
    rw [hee] at hcall
    have hbqn : bq < n := by omega
    have hbqi : (bq : Int) < (n : Int) := by omega
    have hoff : oF + (k + 1) * 3 = oF + 3 + k * 3 := by omega
    have hoff1 : oF + (k + 1) * 3 + 1 = oF + 3 + k * 3 + 1 := by omega
    have hoff2 : oF + (k + 1) * 3 + 2 = oF + 3 + k * 3 + 2 := by omega
    rw [hoff] at x0
    rw [hoff1] at x1
    rw [hoff2] at x2
    clear hoff hoff1 hoff2
    replace hb4 := hidI hb4
    replace hbd := hidI hbd
    replace hwd := hidI hwd
    replace hTK := hidI hTK
    replace hTKl := hidI hTKl
    replace hnx := hidI hnx
    replace hee := hidI hee
    replace hy := hidI hy
    replace hll := hidI hll
    replace hx := hidI hx
    replace hst := hidI hst
    replace hk := hidI hk
    replace hbef := hidI hbef
    replace hlet := hidI hlet
    replace hs4h := hidI hs4
    go_upto_region 5 with fail
    rw [← hw4]
    replace hw4 := hidI hw4
    clear x0 x1 x2 xb
    go_wp2
    refine hideQ (fun _ _ d _ _ h => by cases d <;> exact h) (fun Q' hnorm hpan => ?_)
    refine wp_region_held_drew (S := (fun W0 => W0.cell? ⟨wr.heap.size, 0, none⟩ = some (.int .i64 y) ∧ W0.cell? ⟨wr.heap.size, 1, none⟩ = some (.int .i64 l) ∧ W0.cell? ⟨wr.heap.size, 2, none⟩ = some (.int .i64 (bq : Int)) ∧ W0.cell? ⟨bF, oF + bq * 3, none⟩ = some (.int .i64 x))) (by kernel_rfl) ?_ (fun hHeld => ?_)
    · try dsimp only
      first | ((repeat' apply And.intro) <;> assumption) | (rw [← hwd.out]; ((repeat' apply And.intro) <;> assumption))
    rw [← hwd.out] at hHeld ⊢
    refine tk 0 13 ?_
    refine tk 1 14 ?_
    refine tk 2 15 ?_
    refine tk 3 16 ?_
    refine tk 4 17 ?_
    refine tk 5 18 ?_
    refine tk 6 19 ?_
    refine tk 7 20 ?_
    refine tk 8 21 ?_
    refine tk 9 22 ?_
    refine tk 10 23 ?_
    refine rd 11 (fun K hK => ?_)
    rw [if_pos (by rfl)]
    go_simp
    go_at_call 125
    (with_reducible refine hcall.mono ?_)
    rintro e w5 ⟨rfl, hb5⟩
    replace c0 := below_cell c0 hb5 (by omega)
    replace c1 := below_cell c1 hb5 (by omega)
    replace c2 := below_cell c2 hb5 (by omega)
    replace cb := below_cell cb hb5 (by omega)
    have hs5 := hb5.size
    have hb5h := hidI hb5
    clear hb5
    refine hK.out _ _ ?_ (fun hHeld => ?_)
    · try dsimp only
      first | ((repeat' apply And.intro) <;> assumption) | (rw [← hwd.out]; ((repeat' apply And.intro) <;> assumption))
    clear hK
    try simp only [Act.put, lyA, lyB, lyC]
    refine rd 12 (fun K hK => ?_)
    rw [if_pos (by rfl)]
    go_simp
    obtain ⟨w6, hw6⟩ := exq (w5.alloc (.cells #[.int .i64 ef, .int .i64 el, .int .i64 et] 72))
    have hb6 : Below w5.heap.size w5 w6 := by rw [hw6]; exact (Below.refl _ _).alloc (Nat.le_refl _) _
    have hh6 := heap_alloc_new w5 (.cells #[.int .i64 ef, .int .i64 el, .int .i64 et] 72)
    rw [← hw6] at hh6
    have hs6 : w6.heap.size = w5.heap.size + 1 := by rw [hw6]; simp
    rw [← hw6]
    replace hw6 := hidI hw6
    replace c0 := below_cell c0 hb6 (by omega)
    replace c1 := below_cell c1 hb6 (by omega)
    replace c2 := below_cell c2 hb6 (by omega)
    replace cb := below_cell cb hb6 (by omega)
    replace hh6 := hidI hh6
    have hb6h := hidI hb6
    clear hb6
    refine hK.out _ _ ?_ (fun hHeld => ?_)
    · try dsimp only
      first | ((repeat' apply And.intro) <;> assumption) | (rw [← hwd.out]; ((repeat' apply And.intro) <;> assumption))
    clear hK
    try simp only [Act.put, lyA, lyB, lyC]
    refine rd 13 (fun K hK => ?_)
    rw [if_pos (by rfl)]
    skip
    have hown6 : OwnsE w6 w.heap.size (.slice ua um uc) TK := OwnsS.later (OwnsS.later (OwnsS.later hown4.out hbd.out (Nat.le_refl _)) hb5h.out (by omega)) hb6h.out (Nat.le_refl _)
    refine step_pushE_at _ _ rfl w.heap.size (.slice ua um uc) TK (ef, el, et) w5.heap.size rfl rfl hown6 hh6.out (by have := hTKl.out; omega) (by omega) ?_
    intro v7 w7 hown7 hg7 hat7
    have hs7 := hg7.size
    have hkp : ∀ q, q < w.heap.size ∨ q = wr.heap.size → w7.heap[q]? = w6.heap[q]? := fun q hq => hg7.block q (by omega) (fun e => by have := hvk.out q e.symm; omega)
    have hst7 : Hid (OwnsE w7 w.heap.size v7 ((trA S).take (k + 1))) := hidI (by rw [hnx.out, ← hTK.out, hee.out]; exact hown7)
    have hb27 : Hid (Below w.heap.size w w7) := hidI (((((hb.out.trans (hb4.out.mono hsz)).trans (hbd.out.mono (by omega))).trans (hb5h.out.mono (by omega))).trans (hb6h.out.mono (by omega))).grown hg7 (by omega) (fun q hq => (hvk.out q hq).1))
    have k0 := (World.cell?_of_block (a := (⟨wr.heap.size, 0, none⟩ : Addr)) (hkp wr.heap.size (.inr rfl))).trans c0
    have k1 := (World.cell?_of_block (a := (⟨wr.heap.size, 1, none⟩ : Addr)) (hkp wr.heap.size (.inr rfl))).trans c1
    have k2 := (World.cell?_of_block (a := (⟨wr.heap.size, 2, none⟩ : Addr)) (hkp wr.heap.size (.inr rfl))).trans c2
    have kb := (World.cell?_of_block (a := (⟨bF, oF + bq * 3, none⟩ : Addr)) (hkp bF (.inl hBF))).trans cb
    replace c0 := k0
    replace c1 := k1
    replace c2 := k2
    replace cb := kb
    clear hown7 hg7 hat7 hkp k0 k1 k2 kb
    refine hK.out _ _ ?_ (fun hHeld => ?_)
    · try dsimp only
      first | ((repeat' apply And.intro) <;> assumption) | (rw [← hwd.out]; ((repeat' apply And.intro) <;> assumption))
    clear hK
    try simp only [Act.put, lyA, lyB, lyC]
    refine tk 14 3 ?_
    refine wpAnyH_done (by kernel_rfl) ?_ _
    refine hnorm _ _ ?_
    clear hnorm hpan
    repeat clear hHeld
    try simp only [Exit.then]
    go_wp2
    go_roundg (n - 1 - (k + 1))
    case rel => exact ⟨k + 1, by have := hk.out; omega, by go_num, hst7, hb27⟩
    case measure => have := hk.out; omega
  · obtain rfl : k = n - 1 := by omega
    have hki : ¬ ((n - 1 : Nat) : Int) < ((n - 1 : Nat) : Int) := by omega
    have hfull : (trA S).take (n - 1) = trA S := List.take_of_length_le (by have := htl.out; omega)
    rw [hfull] at hst
    have hsort := sort_all wr w.heap.size (.slice ua um uc) (trA S) hst.out hsz (by have := htl.out; omega)
    replace hfull := hidI hfull
    replace hk := hidI hk
    go_wp2_with fail
    refine hsort.mono ?_
    rintro e w5 ⟨rfl, hb5, ds, hp, hs, hown5⟩
    clear hsort
    have hds : ds = F := by rw [hF.out]; exact sort_nodup hp hs (trA_nodup hgood.out hnd.out)
    subst hds
    have hdl : ds.length ≤ 40 := by have := hp.length_eq; have := htl.out; omega
    have hr := hidI (show LwEdges w ds (.returned (.slice ua um uc)) w5 from lwEdges_owns hown5 (hb.out.trans hb5) (Nat.le_refl _) (by omega))
    clear hp hs hown5 hb5 hdl
    go_wp2
    go_ret
    exact hr.out
end Go.Proofs.YtpjlamnjiilgbaaGreat
namespace Go.Proofs.YtpjlamnjiilgbaaGreat
open Go.RowKit Go.Shelf Go.Lib
set_option linter.unusedVariables false
set_option linter.unusedSimpArgs false
def encEd (x : Ed) : List Value := [.int .i64 x.1, .int .i64 x.2.1, .int .i64 x.2.2]
theorem eqEdL : EqlAt Tryz.prog 72 (fun x => .agg (encEd x).toArray) (fun x y => x.1 == y.1 && (x.2.1 == y.2.1 && x.2.2 == y.2.2)) := by
 refine ⟨fun x y w => ?_, GuardAt.agg _ (by kernel_rfl)⟩
 have u3 := Tryz.underlying3
 have a3 := Tryz.isAgg3
 have z3 := Tryz.sizeOf3
 have hS : Tryz.prog.underlying 72 = some (.struct (Tryz.prog.fieldsOf 72)) := by kernel_rfl
 have hp : Tryz.prog.stoodInHeld 72 = false := by kernel_rfl
 simp only [encEd]
 rw [run_eql_struct, show (10000 : Nat) = 9999 + 1 from rfl, run_equalIn_agg w 9999 72 _ _ hS hp]
 simp only [Program.fieldsOf, Tryz.underlying72]
 go_simp
 by_cases h1 : x.1 = y.1 <;> by_cases h2 : x.2.1 = y.2.1 <;> by_cases h3 : x.2.2 = y.2.2 <;> simp [h1, h2, h3]
theorem hasE_cells (w : World) (b off n c : Nat) (l : List Ed) (e : Ed) (h : ReadE w.heap.size w (.slice (some ⟨b, off, none⟩) n c) l) (hn : l.length = n) (hl : n ≤ 1000000000) :
 Calls Tryz.prog 93 #[.slice (some ⟨b, off, none⟩) n c, .agg #[.int .i64 e.1, .int .i64 e.2.1, .int .i64 e.2.2]] w fun e' w' => e' = .returned (.bool (decide (e ∈ l))) ∧ Below w.heap.size w w' := by
 have hc := AnyQ.slices_Contains Tryz.ctnE 3 Tryz.isAgg72 Tryz.sizeOf72 encEd (fun _ => rfl) _ eqEdL b off n c l e w (by omega) (by omega) (fun j hj i v hv => by
  obtain ⟨b', off', e, _, c0, c1, c2⟩ := ReadE.at3 h j hj
  simp only [Option.some.injEq, Addr.mk.injEq, and_true] at e
  obtain ⟨rfl, rfl⟩ := e
  have hg : l[j]! = l.getD j e0 := by rw [getElem!_pos l j hj, List.getD_eq_getElem?_getD, List.getElem?_eq_getElem hj]; rfl
  rw [hg] at hv
  unfold encEd at hv
  match i, hv with
  | 0, hv => simp at hv; subst hv; simpa using c0
  | 1, hv => simp at hv; subst hv; simpa using c1
  | 2, hv => simp at hv; subst hv; simpa using c2)
 change Calls Tryz.prog 93 _ _ _ at hc
 refine hc.mono ?_
 rintro e' w' ⟨rfl, hb⟩
 refine ⟨?_, hb⟩
 congr 2
 rw [← hn, List.take_length, Bool.eq_iff_iff, List.any_eq_true, decide_eq_true_eq]
 constructor
 · rintro ⟨x, hx, hxe⟩
   simp only [Bool.and_eq_true, beq_iff_eq] at hxe
   have : e = x := Prod.ext hxe.1 (Prod.ext hxe.2.1 hxe.2.2)
   rw [this]; exact hx
 · intro hx
   exact ⟨e, hx, by simp⟩
theorem indexE_nil (w : World) (a : Option Addr) (c : Nat) (f l t : Int) :
 Calls Tryz.prog 129 #[.slice a 0 c, .agg #[.int .i64 f, .int .i64 l, .int .i64 t]] w fun e w' => e = .returned (.int .i64 (-1)) ∧ Below w.heap.size w w' := by
 obtain ⟨w1, hw1⟩ := exq (w.alloc (.cells #[.int .i64 f, .int .i64 l, .int .i64 t] 72))
 have hb : Below w.heap.size w w1 := by rw [hw1]; exact (Below.refl _ _).alloc (Nat.le_refl _) _
 go_enter Tryz.func129, Tryz.ntmps129
 go_upto_region 1 with fail
 rw [← hw1]
 replace hw1 := hidI hw1
 go_wp2
 go_loopg [8] 0 (fun g i wr => i = .int .i64 0 ∧ g = 0 ∧ Hid (wr = w1))
 case atStart => exact ⟨rfl, rfl, hidI rfl⟩
 case round =>
  obtain ⟨rfl, hg, hwr⟩ := hrel
  have hwr' := hwr.out
  subst hwr'
  replace hg := hidI hg
  replace hwr := hidI hwr.out
  go_wp2
  go_ret
  exact ⟨rfl, hb⟩
theorem containsE_nil (w : World) (a : Option Addr) (c : Nat) (f l t : Int) :
 Calls Tryz.prog 93 #[.slice a 0 c, .agg #[.int .i64 f, .int .i64 l, .int .i64 t]] w fun e w' => e = .returned (.bool false) ∧ Below w.heap.size w w' := by
 obtain ⟨w1, hw1⟩ := exq (w.alloc (.cells #[.int .i64 f, .int .i64 l, .int .i64 t] 72))
 have hb : Below w.heap.size w w1 := by rw [hw1]; exact (Below.refl _ _).alloc (Nat.le_refl _) _
 obtain ⟨c0, c1, c2⟩ := box3 hw1
 have hix := indexE_nil w1 a c f l t
 have hs : w.heap.size ≤ w1.heap.size := hb.size
 go_enter Tryz.func93, Tryz.ntmps93
 go_upto_region 1 with fail
 rw [← hw1]
 replace hw1 := hidI hw1
 go_wp2_with fail
 refine hix.mono ?_
 rintro e w2 ⟨rfl, hb2⟩
 have hb02 := hb.trans (hb2.mono hs)
 clear c0 c1 c2
 go_wp2
 go_ret
 exact ⟨rfl, hb02⟩
theorem hasE_any (w : World) (B : Nat) (v : Value) (l : List Ed) (e : Ed) (hB : B ≤ w.heap.size) (h : ReadE B w v l) (hl : l.length ≤ 1000000000) :
 Calls Tryz.prog 93 #[v, .agg #[.int .i64 e.1, .int .i64 e.2.1, .int .i64 e.2.2]] w (LwBool w (decide (e ∈ l))) := by
 replace h := h.mono hB
 obtain ⟨a, c, rfl, _⟩ := h.form
 rcases Nat.eq_zero_or_pos l.length with h0 | h0
 · have : l = [] := List.length_eq_zero_iff.1 h0
   subst this
   refine (containsE_nil w a c e.1 e.2.1 e.2.2).mono ?_
   rintro e' w' ⟨rfl, hb⟩
   exact ⟨by simp, hb⟩
 · obtain ⟨b, off, rfl, _, _⟩ := ReadE.at3 h 0 h0
   refine (hasE_cells w b off l.length c l e h rfl hl).mono ?_
   rintro e' w' ⟨rfl, hb⟩
   exact ⟨rfl, hb⟩
end Go.Proofs.YtpjlamnjiilgbaaGreat
namespace Go.Proofs.YtpjlamnjiilgbaaGreat
open Go.RowKit
set_option linter.unusedVariables false
set_option linter.unusedSimpArgs false
theorem areInv (w : World) (y x : Int) (hy : -9223372036854775808 ≤ y ∧ y ≤ 9223372036854775807) (hx : -9223372036854775808 ≤ x ∧ x ≤ 9223372036854775807) (b : Bool) (hb : inv y x = b) :
 Calls Tryz.prog 174 #[.int .i64 y, .int .i64 x] w fun e w' => e = .returned (.bool b) ∧ w = w' := by
 have he : y = ng x ∧ y ≠ 0 ∧ y ≠ -9223372036854775808 ↔ y + x = 0 ∧ x ≠ 0 := by
  by_cases h1 : x = -9223372036854775808
  · subst h1; rw [ng_min]; omega
  · rw [ng_of (by omega) hx.2]; omega
 by_cases h1 : y = ng x
 · have g1 : (y == wrap64 (-x)) = true := by rw [beq_iff_eq]; exact h1
   by_cases h2 : y = 0
   · have g2 : (y != 0) = false := by rw [bne_eq_false_iff_eq]; exact h2
     have hbb : b = false := by rw [← hb]; unfold inv; rw [decide_eq_false_iff_not, ← he]; exact fun h => h.2.1 h2
     subst hbb
     clear hb he h1 h2
     go_enter Tryz.func174, Tryz.ntmps174
     go_wp2
     go_ret
     exact ⟨rfl, rfl⟩
   · have g2 : (y != 0) = true := by rw [bne_iff_ne]; exact h2
     by_cases h3 : y = -9223372036854775808
     · have g3 : (y != -9223372036854775808) = false := by rw [bne_eq_false_iff_eq]; exact h3
       have hbb : b = false := by rw [← hb]; unfold inv; rw [decide_eq_false_iff_not, ← he]; exact fun h => h.2.2 h3
       subst hbb
       clear hb he h1 h2 h3
       go_enter Tryz.func174, Tryz.ntmps174
       go_wp2
       go_ret
       exact ⟨rfl, rfl⟩
     · have g3 : (y != -9223372036854775808) = true := by rw [bne_iff_ne]; exact h3
       have hbb : b = true := by rw [← hb]; unfold inv; rw [decide_eq_true_eq, ← he]; exact ⟨h1, h2, h3⟩
       subst hbb
       clear hb he h1 h2 h3
       go_enter Tryz.func174, Tryz.ntmps174
       go_wp2
       go_ret
       exact ⟨rfl, rfl⟩
 · have g1 : (y == wrap64 (-x)) = false := by rw [beq_eq_false_iff_ne]; exact h1
   have hbb : b = false := by rw [← hb]; unfold inv; rw [decide_eq_false_iff_not, ← he]; exact fun h => h1 h.1
   subst hbb
   clear hb he h1
   go_enter Tryz.func174, Tryz.ntmps174
   go_wp2
   go_ret
   exact ⟨rfl, rfl⟩
end Go.Proofs.YtpjlamnjiilgbaaGreat
namespace Go.Proofs.YtpjlamnjiilgbaaGreat
open Go.RowKit
set_option linter.unusedVariables false
def Chain (w : World) (lo hi : Nat) : List Int → Value → Prop
 | [], v => v = .pointer none
 | x :: s, v => ∃ (b : Nat) (p : Value), v = .pointer (some ⟨b, 0, none⟩) ∧ lo ≤ b ∧ b < hi ∧ w.heap[b]? = some (.cells #[.int .i64 x, .int .i64 ((s.length : Int) + 1), p] 174 (0, 0)) ∧ Chain w lo hi s p
theorem Chain.mono {w : World} {lo hi hi' : Nat} (hh : hi ≤ hi') : ∀ {s : List Int} {v : Value}, Chain w lo hi s v → Chain w lo hi' s v := by
 intro s
 induction s with
 | nil => intro v h; exact h
 | cons x s ih =>
  intro v h
  obtain ⟨b, p, hv, h1, h2, h3, h4⟩ := h
  exact ⟨b, p, hv, h1, by omega, h3, ih h4⟩
theorem Chain.below {w w' : World} {lo hi B : Nat} (hb : Below B w w') (hB : hi ≤ B) : ∀ {s : List Int} {v : Value}, Chain w lo hi s v → Chain w' lo hi s v := by
 intro s
 induction s with
 | nil => intro v h; exact h
 | cons x s ih =>
  intro v h
  obtain ⟨b, p, hv, h1, h2, h3, h4⟩ := h
  exact ⟨b, p, hv, h1, h2, by rw [hb.block b (by omega)]; exact h3, ih h4⟩
def EndRet (w : World) (lo : Nat) (s : List Int) (e : Ending) (w' : World) : Prop := ∃ v, e = .returned v ∧ Chain w' lo w'.heap.size s v ∧ Below w.heap.size w w'
theorem endRet_new {w : World} {lo : Nat} {s : List Int} {x : Int} {v : Value} (hlo : lo ≤ w.heap.size) (h : Chain w lo w.heap.size s v) :
 EndRet w lo (x :: s) (.returned (.pointer (some ⟨w.heap.size, 0, none⟩))) (w.alloc (.cells #[.int .i64 x, .int .i64 ((s.length : Int) + 1), v] 174)) := by
 have hb := (Below.refl w.heap.size w).alloc (Nat.le_refl _) (.cells #[.int .i64 x, .int .i64 ((s.length : Int) + 1), v] 174)
 refine ⟨_, rfl, ⟨w.heap.size, v, rfl, hlo, by simp, heap_alloc_new w _, ?_⟩, hb⟩
 exact (h.below hb (Nat.le_refl _)).mono (by simp)
set_option maxHeartbeats 800000 in
theorem followedBy_any (w : World) (lo : Nat) (v : Value) (s : List Int) (x : Int) (hlo : lo ≤ w.heap.size) (h : Chain w lo w.heap.size s v) (hs : InR s) (hx : -9223372036854775808 ≤ x ∧ x ≤ 9223372036854775807) (hl : s.length ≤ 1000000000) :
 Calls Tryz.prog 147 #[v, .int .i64 x] w (EndRet w lo (push s x)) := by
 cases s with
 | nil =>
  have hnil : v = .pointer none := h
  subst hnil
  have hr : EndRet w lo (push [] x) (.returned (.pointer (some ⟨w.heap.size, 0, none⟩))) (w.alloc (.cells #[.int .i64 x, .int .i64 1, .pointer none] 174)) := endRet_new (s := []) hlo h
  replace h := hidI h
  replace hr := hidI hr
  go_enter Tryz.func147, Tryz.ntmps147
  go_wp2
  go_ret
  exact hr.out
 | cons y t =>
  have hch := h
  obtain ⟨b, p, rfl, h1, h2, h3, h4⟩ := h
  have c0 : w.cell? ⟨b, 0, none⟩ = some (.int .i64 y) := by simp [World.cell?, h3]
  have c1 : w.cell? ⟨b, 1, none⟩ = some (.int .i64 ((t.length : Int) + 1)) := by simp [World.cell?, h3]
  have c2 : w.cell? ⟨b, 2, none⟩ = some p := by simp [World.cell?, h3]
  have hy := hs.head
  obtain ⟨n, hn⟩ := exq t.length
  rw [List.length_cons, ← hn] at hl
  rw [← hn] at c1
  cases hi : inv y x with
  | true =>
   have hr : EndRet w lo (push (y :: t) x) (.returned p) w := ⟨p, rfl, by rw [push_yes hi]; exact h4, Below.refl _ _⟩
   have hcall := areInv w y x hy hx true hi
   replace hr := hidI hr
   replace hi := hidI hi
   replace hn := hidI hn
   clear h3 h4 hch hs
   go_enter Tryz.func147, Tryz.ntmps147
   go_wp2_with fail
   refine hcall.mono ?_
   rintro e w' ⟨rfl, rfl⟩
   go_wp2
   go_ret
   exact hr.out
  | false =>
   have hr : EndRet w lo (push (y :: t) x) (.returned (.pointer (some ⟨w.heap.size, 0, none⟩))) (w.alloc (.cells #[.int .i64 x, .int .i64 ((n : Int) + 1 + 1), .pointer (some ⟨b, 0, none⟩)] 174)) := by
    rw [push_no hi]
    have := endRet_new (x := x) hlo hch
    rw [List.length_cons, ← hn] at this
    exact this
   have hcall := areInv w y x hy hx false hi
   replace hr := hidI hr
   replace hi := hidI hi
   replace hn := hidI hn
   clear h3 h4 hch hs
   go_enter Tryz.func147, Tryz.ntmps147
   go_wp2_with fail
   refine hcall.mono ?_
   rintro e w' ⟨rfl, rfl⟩
   go_wp2
   go_ret
   exact hr.out
end Go.Proofs.YtpjlamnjiilgbaaGreat
namespace Go.Proofs.YtpjlamnjiilgbaaGreat
open Go.RowKit
set_option linter.unusedVariables false
def padR (s : List Int) (j : Nat) : List Int := List.replicate (s.length - j) 0 ++ (s.take j).reverse
theorem padR_length (s : List Int) (j : Nat) (h : j ≤ s.length) : (padR s j).length = s.length := by simp [padR]; omega
theorem padR_zero (s : List Int) : padR s 0 = List.replicate s.length 0 := by simp [padR]
theorem padR_full (s : List Int) : padR s s.length = s.reverse := by simp [padR]
theorem padR_step (s : List Int) (j : Nat) (h : j < s.length) : (padR s j).set (s.length - 1 - j) (s.getD j 0) = padR s (j + 1) := by
 have e : s.length - j = (s.length - (j + 1)) + 1 := by omega
 unfold padR
 rw [List.set_append_left _ _ (by rw [List.length_replicate]; omega), List.take_succ_eq_append_getElem h, List.reverse_append, e, List.replicate_succ', List.set_append_right _ _ (by rw [List.length_replicate]; omega)]
 have e2 : s.length - 1 - j - (s.length - (j + 1)) = 0 := by omega
 rw [List.length_replicate, e2]
 simp [List.getD_eq_getElem?_getD, h]
theorem Chain.next {w : World} {lo hi : Nat} {s : List Int} {v : Value} {j : Nat} (h : Chain w lo hi (s.drop j) v) (hj : j < s.length) :
 ∃ b p, v = .pointer (some ⟨b, 0, none⟩) ∧ lo ≤ b ∧ b < hi ∧ w.cell? ⟨b, 0, none⟩ = some (.int .i64 (s.getD j 0)) ∧ w.cell? ⟨b, 1, none⟩ = some (.int .i64 ((s.length : Int) - j)) ∧ w.cell? ⟨b, 2, none⟩ = some p ∧ Chain w lo hi (s.drop (j + 1)) p := by
 rw [List.drop_eq_getElem_cons hj] at h
 obtain ⟨b, p, hv, h1, h2, h3, h4⟩ := h
 have e : ((s.drop (j + 1)).length : Int) + 1 = (s.length : Int) - j := by rw [List.length_drop]; omega
 refine ⟨b, p, hv, h1, h2, ?_, ?_, ?_, h4⟩
 · simp [World.cell?, h3, List.getD_eq_getElem?_getD, hj]
 · rw [← e]; simp [World.cell?, h3]
 · simp [World.cell?, h3]
theorem Chain.end_ {w : World} {lo hi : Nat} {s : List Int} {v : Value} {j : Nat} (h : Chain w lo hi (s.drop j) v) (hj : s.length ≤ j) : v = .pointer none := by
 rw [List.drop_eq_nil_of_le hj] at h
 exact h
set_option maxHeartbeats 1600000 in
theorem letters_any (w : World) (lo : Nat) (v : Value) (s : List Int) (h : Chain w lo w.heap.size s v) (hl : s.length ≤ 1000000000) :
 Calls Tryz.prog 148 #[v] w (IntsRet w s.reverse) := by
 by_cases h0 : s.length = 0
 · have hn : s = [] := List.length_eq_zero_iff.1 h0
   subst hn
   have hnil : v = .pointer none := h
   subst hnil
   have hr : IntsRet w ([] : List Int).reverse (.returned (.slice none 0 0)) w := ⟨_, rfl, ⟨by simp, .inl ⟨rfl, rfl⟩⟩, Below.refl _ _⟩
   clear h h0 hl
   go_enter Tryz.func148, Tryz.ntmps148
   go_wp2
   go_ret
   exact hr
 · have hch : Chain w lo w.heap.size (s.drop 0) v := h
   obtain ⟨b0, p0, rfl, hb1, hb2, hc0, hc1, hc2, hnx⟩ := hch.next (j := 0) (by omega)
   obtain ⟨n, hn⟩ := exq s.length
   obtain ⟨i0, hi, hz0, hz1, hz2⟩ := info_parts infoInt
   rw [← hn] at hl hc1 h0
   have hc1' : w.cell? ⟨b0, 1, none⟩ = some (.int .i64 (n : Int)) := by simpa using hc1
   replace hn := hidI hn
   replace h := hidI h
   clear hc1 hnx hc0 hc2 hch
   go_enter Tryz.func148, Tryz.ntmps148
   go_wp2_with (at_make; go_must (refine wpList_make_full _ rfl _ _ 46 rfl w.heap.size 3 i0 (.int .i64 0) 1 Tryz.underlying46 hi hz0 hz1 .i64 .i64 _ _ n rfl rfl rfl rfl ?c1 ?c2 ?c3 ?_))
   case c1 => rw [hz2]; omega
   case c2 => unfold maxLen; omega
   case c3 => exact Nat.le_refl _
   intro w1 hown hg
   rw [made_ints] at hown
   have hb := (Below.refl w.heap.size w).grown hg (Nat.le_refl _) (by intro k hk; cases hk)
   have hstart := hidI (h.out.below hb (Nat.le_refl _))
   clear hg hi hz0 hz1 hz2
   replace hown := hidI hown
   go_wp2
   go_loopg [0] n (fun k p wr => ∃ j : Nat, j + k = n ∧ Chain wr lo w.heap.size (s.drop j) p ∧ wr.ownsRow w.heap.size 3 1 (.slice (some ⟨w.heap.size, 0, none⟩) n n) n ((padR s j).map iv) ∧ Below w.heap.size w wr)
   case atStart => exact ⟨0, by omega, hstart.out, by rw [padR_zero, ← hn.out]; exact hown.out, hb⟩
   case round =>
    clear hown hb hstart hc1'
    obtain ⟨j, hj, hch, hown, hb⟩ := hrel
    by_cases hlt : j < n
    · obtain ⟨b, p, rfl, hl1, hl2, hx0, hx1, hx2, hnx⟩ := hch.next (j := j) (by have := hn.out; omega)
      obtain ⟨z, hz⟩ := exq (s.getD j 0)
      obtain ⟨i, hi⟩ : ∃ i, n = j + 1 + i := ⟨n - (j + 1), by omega⟩
      rw [← hz] at hx0
      have hx1' : wr.cell? ⟨b, 1, none⟩ = some (.int .i64 ((i : Int) + 1)) := by
       rw [hx1]
       have := hn.out
       congr 2
       omega
      have hold : ∃ v, wr.cell? ⟨w.heap.size, i, none⟩ = some v := by
       have hnl := hn.out
       rw [hown.cellAt _ (by omega)]
       exact ⟨_, List.getElem?_eq_getElem (by rw [List.length_map, padR_length _ _ (by omega)]; omega)⟩
      obtain ⟨v, hold⟩ := hold
      have hfr := hown.frozenAt i
      have hst := (hown.stored i (iv z)).1
      have hpi : s.length - 1 - j = i := by have := hn.out; omega
      rw [← List.map_set, hz, ← hpi, padR_step s j (by have := hn.out; omega), ← hz, hpi] at hst
      have hin : (i : Int) < (n : Int) := by omega
      have hbn : ¬ b = w.heap.size := by omega
      have hbb := (hb.setCell (p := ⟨w.heap.size, i, none⟩) (Nat.le_refl _) (iv z)).drew
      have hnx2 : Chain (wr.setCell ⟨w.heap.size, i, none⟩ (iv z)).drew lo w.heap.size (s.drop (j + 1)) p := hnx.below ((Below.refl w.heap.size wr).setCell (p := ⟨w.heap.size, i, none⟩) (Nat.le_refl _) (iv z)).drew (Nat.le_refl _)
      replace hst := hidI hst
      replace hnx2 := hidI hnx2
      replace hz := hidI hz
      replace hown := hidI hown
      replace hi := hidI hi
      replace hj := hidI hj
      clear hch hnx hx1 hpi
      go_wp2
      go_region
      have hx2' : ((wr.setCell ⟨w.heap.size, i, none⟩ (iv z)).drew).cell? ⟨b, 2, none⟩ = some p := by
       rw [World.cell?_drew, World.cell?_setCell_other _ _ _ _ (by simp only [ne_eq, Addr.mk.injEq]; omega)]
       exact hx2
      go_wp2
      go_roundg i
      case rel => exact ⟨j + 1, by have := hi.out; omega, hnx2.out, hst.out, hbb⟩
      case measure => have := hj.out; have := hi.out; omega
    · have hjn : j = n := by omega
      subst hjn
      have hnil := hch.end_ (by have := hn.out; omega)
      subst hnil
      have hrow : RowI wr w.heap.size wr.heap.size (.slice (some ⟨w.heap.size, 0, none⟩) j j) s.reverse := by
       have hnl := hn.out
       refine RowI.of_owns ?_ (by rw [List.length_reverse]; omega)
       rw [List.length_reverse, ← hnl]
       have := hown
       rw [hnl, padR_full, ← hnl] at this
       exact this
      replace hrow := hidI hrow
      replace hown := hidI hown
      clear hch
      go_wp2
      go_ret
      exact ⟨_, rfl, hrow.out, hb⟩
end Go.Proofs.YtpjlamnjiilgbaaGreat
namespace Go.Proofs.YtpjlamnjiilgbaaGreat
open Go.RowKit
set_option linter.unusedVariables false
set_option linter.unusedSimpArgs false
def ReadLL (B : Nat) (w : World) (v : Value) (zss : List (List Int)) : Prop :=
 zss.length ≤ 140737488355328 ∧ ∃ a cap, v = .slice a zss.length cap ∧ (zss = [] ∨ ∃ b off, a = some ⟨b, off, none⟩ ∧ b < B ∧ ∀ i, i < zss.length → ∃ vi, w.cell? ⟨b, off + i, none⟩ = some vi ∧ ReadI B w vi (zss.getD i []))
theorem ReadLL.below {B : Nat} {w w' : World} {v : Value} {zss : List (List Int)} (h : ReadLL B w v zss) (hb : Below B w w') : ReadLL B w' v zss := by
 obtain ⟨hl, a, cap, hv, hc⟩ := h
 refine ⟨hl, a, cap, hv, hc.imp id ?_⟩
 rintro ⟨b, off, ha, hB, hcell⟩
 refine ⟨b, off, ha, hB, fun i hi => ?_⟩
 obtain ⟨vi, h1, h2⟩ := hcell i hi
 exact ⟨vi, by rw [hb.cell (p := ⟨b, off + i, none⟩) hB]; exact h1, h2.below hb⟩
theorem ReadLL.at_ {B : Nat} {w : World} {a : Option Addr} {n cap : Nat} {zss : List (List Int)} (h : ReadLL B w (.slice a n cap) zss) (i : Nat) (hi : i < zss.length) :
 ∃ b off vi, a = some ⟨b, off, none⟩ ∧ b < B ∧ w.cell? ⟨b, off + i, none⟩ = some vi ∧ ReadI B w vi (zss.getD i []) := by
 obtain ⟨_, a', cap', hv, hr⟩ := h
 simp only [Value.slice.injEq] at hv
 obtain ⟨rfl, _, rfl⟩ := hv
 rcases hr with h0 | ⟨b, off, ha, hB, hc⟩
 · rw [h0] at hi; simp at hi
 · obtain ⟨vi, h1, h2⟩ := hc i hi
   exact ⟨b, off, vi, ha, hB, h1, h2⟩
theorem getD_lists {zss : List (List Int)} {i : Nat} (h : i < zss.length) : zss.getD i [] = zss[i] := by rw [List.getD_eq_getElem?_getD, List.getElem?_eq_getElem h]; rfl
theorem take_flat {zss : List (List Int)} {k : Nat} (h : k < zss.length) : (zss.take (k + 1)).flatten = (zss.take k).flatten ++ zss.getD k [] := by
 rw [List.take_succ_eq_append_getElem h, List.flatten_append, getD_lists h]; simp
theorem take_flat_le (zss : List (List Int)) (k : Nat) : (zss.take k).flatten.length ≤ zss.flatten.length := by
 have : zss.flatten = (zss.take k).flatten ++ (zss.drop k).flatten := by rw [← List.flatten_append, List.take_append_drop]
 rw [this, List.length_append]; omega
end Go.Proofs.YtpjlamnjiilgbaaGreat
namespace Go.Proofs.YtpjlamnjiilgbaaGreat
open Go.RowKit
set_option linter.unusedVariables false
theorem InR.take_flat {zss : List (List Int)} (h : InR zss.flatten) (k : Nat) : InR (zss.take k).flatten := by
 have : zss.flatten = (zss.take k).flatten ++ (zss.drop k).flatten := by rw [← List.flatten_append, List.take_append_drop]
 rw [this] at h
 exact h.left
theorem InR.at_flat {zss : List (List Int)} (h : InR zss.flatten) {k : Nat} (hk : k < zss.length) : InR (zss.getD k []) := by
 rw [getD_lists hk]
 exact fun x hx => h x (List.mem_flatten.2 ⟨_, List.getElem_mem hk, hx⟩)
theorem stk_take {s zs : List Int} {j : Nat} (h : j < zs.length) : stk s (zs.take (j + 1)) = push (stk s (zs.take j)) (zs.getD j 0) := by
 rw [List.take_succ_eq_append_getElem h, stk_snoc]
 simp [List.getD_eq_getElem?_getD, h]
set_option maxHeartbeats 1600000 in
theorem multiplyAll_any (w : World) (v : Value) (zss : List (List Int)) (h : ReadLL w.heap.size w v zss) (hin : InR zss.flatten) (hl : zss.flatten.length ≤ 1000000000) :
 Calls Tryz.prog 119 #[v] w (IntsRet w (redL zss.flatten)) := by
 have hread := h
 obtain ⟨hml, a, cap, rfl, hq⟩ := h
 clear hq
 obtain ⟨m, hm⟩ := exq zss.length
 rw [← hm] at hml hread ⊢
 replace hm := hidI hm
 replace hread := hidI hread
 go_enter Tryz.func119, Tryz.ntmps119
 go_wp2
 go_loopg [3, 10] m (fun g v i wr => ∃ k : Nat, k + g = m ∧ i = .int .i64 k ∧ Chain wr w.heap.size wr.heap.size (stk [] (zss.take k).flatten) v ∧ Below w.heap.size w wr)
 case atStart => exact ⟨0, by omega, rfl, rfl, Below.refl _ _⟩
 case round =>
  obtain ⟨k, hk, rfl, hch, hb⟩ := hrel
  by_cases hlt : k < m
  · obtain ⟨b, off, vi, rfl, hB, hcell0, hri⟩ := hread.out.at_ k (by have := hm.out; omega)
    have hcell : wr.cell? ⟨b, off + k, none⟩ = some vi := by rw [hb.cell (p := ⟨b, off + k, none⟩) hB]; exact hcell0
    clear hcell0
    have hzin := hin.at_flat (k := k) (by have := hm.out; omega)
    have hstep := take_flat (zss := zss) (k := k) (by have := hm.out; omega)
    have hpin := hin.take_flat k
    have hlen := take_flat_le zss (k + 1)
    rw [hstep, List.length_append] at hlen
    obtain ⟨z, hz⟩ := exq (zss.getD k [])
    rw [← hz] at hri hzin hstep hlen
    obtain ⟨s0, hs0⟩ := exq (stk [] (zss.take k).flatten)
    have hs0in : InR s0 := by rw [hs0]; exact stk_in InR.nil hpin
    have hs0l : s0.length ≤ (zss.take k).flatten.length := by
     rw [hs0]
     have := stk_length (zss.take k).flatten []
     rwa [List.length_nil, Nat.zero_add] at this
    have hnext : stk [] (zss.take (k + 1)).flatten = stk s0 z := by rw [hstep, stk_append, hs0]
    rw [← hs0] at hch
    have hbound : s0.length + z.length ≤ 1000000000 := by omega
    have hri2 := hri
    obtain ⟨hzl, a2, cap2, rfl, hq1, hq2⟩ := hri
    obtain ⟨n, hn⟩ := exq z.length
    rw [← hn] at hzl hri2 hbound hcell
    have hk2 : (k : Int) < (m : Int) := by omega
    clear hq1 hq2 hstep hpin hs0l hlen
    replace hz := hidI hz
    replace hs0 := hidI hs0
    replace hn := hidI hn
    replace hri2 := hidI hri2
    replace hnext := hidI hnext
    replace hk := hidI hk
    replace hch := hidI hch
    replace hm := hidI hm
    go_wp2
    obtain ⟨wo, hwo⟩ : ∃ wo : World, wo = wr := ⟨_, rfl⟩
    rw [← hwo] at hcell hb hch ⊢
    clear hwo
    go_loopg [3, 16] n (fun g v i wx => ∃ j : Nat, j + g = n ∧ i = .int .i64 j ∧ Chain wx w.heap.size wx.heap.size (stk s0 (z.take j)) v ∧ Below w.heap.size w wx)
    case atStart => exact ⟨0, by omega, rfl, hch.out, hb⟩
    case round =>
     obtain ⟨j, hj, rfl, hci, hbi⟩ := hrel
     by_cases hlj : j < n
     · obtain ⟨b2, off2, rfl, hB2, hcell2⟩ := (hri2.out.below hbi).at_ j (by have := hn.out; omega)
       have hzj := hzin.getD j (by have := hn.out; omega)
       have hsj := stk_take (s := s0) (zs := z) (j := j) (by have := hn.out; omega)
       have hcin : InR (stk s0 (z.take j)) := stk_in hs0in (hzin.take j)
       have hcl : (stk s0 (z.take j)).length ≤ 1000000000 := by
        have := stk_length (z.take j) s0
        rw [List.length_take] at this
        omega
       obtain ⟨x, hx⟩ := exq (z.getD j 0)
       rw [← hx] at hcell2 hzj hsj
       have hlj2 : (j : Int) < (n : Int) := by omega
       have hcall := followedBy_any wr w.heap.size _ _ x hbi.size hci hcin hzj hcl
       replace hx := hidI hx
       replace hsj := hidI hsj
       replace hj := hidI hj
       clear hcell hci hcin hcl hzj
       go_wp2_with fail
       refine hcall.mono ?_
       rintro e w1 ⟨v1, rfl, hch1, hb1⟩
       have hbn := hbi.trans (hb1.mono hbi.size)
       replace hch1 := hidI hch1
       clear hb1 hcall
       go_wp2
       go_roundg (n - (j + 1))
       case rel => exact ⟨j + 1, by have := hj.out; omega, by go_num, by rw [hsj.out]; exact hch1.out, hbn⟩
       case measure => have := hj.out; omega
     · obtain rfl : j = n := by omega
       have hfz : z.take j = z := List.take_of_length_le (by have := hn.out; omega)
       rw [hfz, ← hnext.out] at hci
       replace hfz := hidI hfz
       replace hj := hidI hj
       replace hci := hidI hci
       go_wp2
       go_roundg (m - (k + 1))
       case rel => exact ⟨k + 1, by have := hk.out; omega, by go_num, hci.out, hbi⟩
       case measure => have := hk.out; omega
  · obtain rfl : k = m := by omega
    have hfull : (zss.take k).flatten = zss.flatten := by rw [List.take_of_length_le (by have := hm.out; omega)]
    rw [hfull] at hch
    have hll := stk_length zss.flatten []
    have hcall := letters_any wr w.heap.size _ _ hch (by rw [List.length_nil, Nat.zero_add] at hll; omega)
    rw [← redL_stk hin] at hcall
    replace hfull := hidI hfull
    replace hk := hidI hk
    clear hll hch
    go_wp2_with fail
    refine hcall.mono ?_
    rintro e w1 ⟨v1, rfl, hrow, hb1⟩
    have hs := hb.size
    have hr : IntsRet w (redL zss.flatten) (.returned v1) w1 := ⟨v1, rfl, hrow.wide hs (Nat.le_refl _), hb.trans (hb1.mono hs)⟩
    replace hr := hidI hr
    clear hrow hb1 hb
    go_wp2
    go_ret
    exact hr.out
end Go.Proofs.YtpjlamnjiilgbaaGreat
