import Derived.BigQuiet
import Derived.Deep.LoopGhost
import Derived.Deep.RegionHeld3
import Derived.Laws.ResultCell
import Derived.Laws.AppendOwn
import Derived.Laws.AppendOwnNone
import Derived.Test.YtpjlamnjiilgbaaGreatJ1Is
namespace Go.Proofs.YtpjlamnjiilgbaaGreat
open Go.RowKit
set_option linter.unusedVariables false
set_option maxHeartbeats 1600000 in
theorem specCmpE (w : World) (f l t f' l' t' : Int) :
 Calls Tryz.prog 146 #[.agg #[.int .i64 f, .int .i64 l, .int .i64 t], .agg #[.int .i64 f', .int .i64 l', .int .i64 t']] w (LwInt w (cmpE (f, l, t) (f', l', t'))) := by
 obtain ⟨c, hc⟩ := exq (cmpE (f, l, t) (f', l', t'))
 rw [← hc]
 obtain ⟨w1, hw1⟩ := exq ((((w.alloc (.cells #[.int .i64 f, .int .i64 l, .int .i64 t] 72)).alloc (.cells #[.int .i64 f', .int .i64 l', .int .i64 t'] 72)).alloc (.cells #[.int .i64 f, .int .i64 l, .int .i64 t] 3)).alloc (.cells #[.int .i64 f', .int .i64 l', .int .i64 t'] 3))
 have hb1 : Below w.heap.size w w1 := by rw [hw1]; exact ((((Below.refl _ _).alloc (Nat.le_refl _) _).alloc (by simp) _).alloc (by simp; omega) _).alloc (by simp; omega) _
 have hx : ∀ k, k < 3 → w1.cell? ⟨w.heap.size + 1 + 1, k, none⟩ = some (.int .i64 (ecell (f, l, t) k)) := by
  intro k hk
  have h := heap_mid ((w.alloc (.cells #[.int .i64 f, .int .i64 l, .int .i64 t] 72))) (.cells #[.int .i64 f', .int .i64 l', .int .i64 t'] 72) (.cells #[.int .i64 f, .int .i64 l, .int .i64 t] 3) (.cells #[.int .i64 f', .int .i64 l', .int .i64 t'] 3)
  rw [← hw1] at h
  have hk3 : k = 0 ∨ k = 1 ∨ k = 2 := by omega
  have h2 := cell_of_heap h k
  simp at h2
  rcases hk3 with rfl | rfl | rfl <;> simpa [ecell] using h2
 have hy : ∀ k, k < 3 → w1.cell? ⟨w.heap.size + 1 + 1 + 1, k, none⟩ = some (.int .i64 (ecell (f', l', t') k)) := by
  intro k hk
  have h := heap_alloc_new (((w.alloc (.cells #[.int .i64 f, .int .i64 l, .int .i64 t] 72)).alloc (.cells #[.int .i64 f', .int .i64 l', .int .i64 t'] 72)).alloc (.cells #[.int .i64 f, .int .i64 l, .int .i64 t] 3)) (.cells #[.int .i64 f', .int .i64 l', .int .i64 t'] 3)
  rw [← hw1] at h
  have hk3 : k = 0 ∨ k = 1 ∨ k = 2 := by omega
  have h2 := cell_of_heap h k
  simp at h2
  rcases hk3 with rfl | rfl | rfl <;> simpa [ecell] using h2
 replace hc := hidI hc
 replace hw1 := hidI hw1
 replace hx := hidI hx
 replace hy := hidI hy
 go_enter Tryz.func146, Tryz.ntmps146
 go_wp2
 rw [← hw1.out]
 go_loopg [7] 3 (fun g i wr => ∃ k m : Nat, k + g = 3 ∧ i = .int .i64 k ∧ Hid (∀ j, j < k → ecell (f, l, t) j = ecell (f', l', t') j) ∧ wr = w1.drewN m)
 case atStart => exact ⟨0, 0, by omega, rfl, hidI (fun j h => by omega), rfl⟩
 case round =>
  obtain ⟨k, m, hk, rfl, he, rfl⟩ := hrel
  by_cases hlt : k < 3
  · have hcx := hx.out k hlt
    have hcy := hy.out k hlt
    obtain ⟨x, hxx⟩ := exq (ecell (f, l, t) k)
    obtain ⟨y, hyy⟩ := exq (ecell (f', l', t') k)
    rw [← hxx] at hcx
    rw [← hyy] at hcy
    have hki : (k : Int) < 3 := by omega
    by_cases h1 : x < y
    · have hfin : c = -1 := by rw [hc.out]; exact cmpE_lt hlt he.out (by rw [← hxx, ← hyy]; exact h1)
      replace hxx := hidI hxx
      replace hyy := hidI hyy
      replace hk := hidI hk
      replace hfin := hidI hfin
      go_wp2
      go_quiet (fail)
      go_wp2
      go_ret
      exact ⟨ret_i hfin.out.symm, below_dn (below_dn hb1 _) _⟩
    · by_cases h2 : y < x
      · have hfin : c = 1 := by rw [hc.out]; exact cmpE_gt hlt he.out (by rw [← hxx, ← hyy]; exact h2)
        have h2' : x > y := h2
        replace hxx := hidI hxx
        replace hyy := hidI hyy
        replace hk := hidI hk
        replace hfin := hidI hfin
        go_wp2
        go_quiet (fail)
        go_wp2
        go_quiet (fail)
        go_wp2
        go_ret
        exact ⟨ret_i hfin.out.symm, below_dn (below_dn (below_dn hb1 _) _) _⟩
      · have hn : ∀ j, j < k + 1 → ecell (f, l, t) j = ecell (f', l', t') j := by
         intro j hj
         by_cases hjk : j = k
         · subst hjk; omega
         · exact he.out j (by omega)
        have h2' : ¬ x > y := h2
        replace hn := hidI hn
        replace hxx := hidI hxx
        replace hyy := hidI hyy
        replace hk := hidI hk
        go_wp2
        go_quiet (fail)
        go_wp2
        go_quiet (fail)
        go_wp2
        go_roundg (3 - (k + 1))
        case rel => exact ⟨k + 1, _, by have := hk.out; omega, by go_num, hn, rfl⟩
        case measure => have := hk.out; omega
  · obtain rfl : k = 3 := by omega
    have hfin : c = 0 := by rw [hc.out]; exact cmpE_eq he.out
    replace hfin := hidI hfin
    go_wp2
    go_ret
    exact ⟨ret_i hfin.out.symm, below_dn hb1 _⟩
set_option maxHeartbeats 1600000 in
theorem specEdge (w : World) (r s : Int) (a : Option Addr) (n cap : Nat) (f l t : Int) (hs : -9223372036854775808 ≤ s ∧ s ≤ 9223372036854775807) :
 Calls Tryz.prog 141 #[.agg #[.int .i64 r, .int .i64 s, .slice a n cap], .agg #[.int .i64 f, .int .i64 l, .int .i64 t]] w (LwBool w (edgeOk r s (f, l, t))) := by
 obtain ⟨q, hq⟩ := exq (wrap64 (s - 1))
 have hok : edgeOk r s (f, l, t) = (decide (0 ≤ f ∧ f ≤ q) && decide (0 ≤ t ∧ t ≤ q) && decide (1 ≤ l ∧ l ≤ r)) := by unfold edgeOk; rw [hq]
 obtain ⟨w1, hw1⟩ := exq ((w.alloc (.cells #[.int .i64 r, .int .i64 s, .slice a n cap] 26)).alloc (.cells #[.int .i64 f, .int .i64 l, .int .i64 t] 72))
 have hb1 : Below w.heap.size w w1 := by rw [hw1]; exact ((Below.refl _ _).alloc (Nat.le_refl _) _).alloc (by simp) _
 have hg := heap_box w (.cells #[.int .i64 r, .int .i64 s, .slice a n cap] 26) (.cells #[.int .i64 f, .int .i64 l, .int .i64 t] 72)
 have hh := heap_alloc_new (w.alloc (.cells #[.int .i64 r, .int .i64 s, .slice a n cap] 26)) (.cells #[.int .i64 f, .int .i64 l, .int .i64 t] 72)
 rw [← hw1] at hg hh
 rw [show (w.alloc (.cells #[.int .i64 r, .int .i64 s, .slice a n cap] 26)).heap.size = w.heap.size + 1 by simp] at hh
 have g0 := cell_of_heap hg 0
 have g1 := cell_of_heap hg 1
 have e0' := cell_of_heap hh 0
 have e1' := cell_of_heap hh 1
 have e2' := cell_of_heap hh 2
 simp at g0 g1 e0' e1' e2'
 have c1 := in_any w1 f 0 q
 have c2 := in_any w1 t 0 q
 have c3 := in_any w1 l 1 r
 obtain ⟨b1, hb1e⟩ := exq (decide (0 ≤ f ∧ f ≤ q))
 obtain ⟨b2, hb2e⟩ := exq (decide (0 ≤ t ∧ t ≤ q))
 obtain ⟨b3, hb3e⟩ := exq (decide (1 ≤ l ∧ l ≤ r))
 rw [← hb1e] at c1 hok
 rw [← hb2e] at c2 hok
 rw [← hb3e] at c3 hok
 rw [hok]
 have hq2 : wrap64 (s - 1) = q := hq.symm
 replace hq := hidI hq
 replace hw1 := hidI hw1
 replace hb1e := hidI hb1e
 replace hb2e := hidI hb2e
 replace hb3e := hidI hb3e
 replace hok := hidI hok
 clear hg hh
 go_enter Tryz.func141, Tryz.ntmps141
 go_wp2_with fail
 rw [← hw1.out]
 refine c1.mono ?_
 rintro e w2 ⟨rfl, rfl⟩
 cases b1 with
 | false =>
  go_wp2
  go_ret
  exact ⟨rfl, hb1⟩
 | true =>
  go_wp2_with fail
  refine c2.mono ?_
  rintro e w2 ⟨rfl, rfl⟩
  cases b2 with
  | false =>
   go_wp2
   go_ret
   exact ⟨rfl, hb1⟩
  | true =>
   go_wp2_with fail
   refine c3.mono ?_
   rintro e w2 ⟨rfl, rfl⟩
   go_wp2
   go_ret
   exact ⟨ret_bool (by simp), hb1⟩
set_option linter.unusedSimpArgs false
set_option maxHeartbeats 6400000 in
theorem specIsGr (w : World) (r s : Int) (v : Value) (es : List Ed) (h : ReadE w.heap.size w v es) (hs : -9223372036854775808 ≤ s ∧ s ≤ 9223372036854775807) (hl : es.length ≤ 1000000000) :
 Calls Tryz.prog 113 #[.agg #[.int .i64 r, .int .i64 s, v]] w (LwBool w (isGr r s es)) := by
 obtain ⟨a, cap, rfl, hnc⟩ := h.form
 obtain ⟨n, hn⟩ := exq es.length
 rw [← hn] at hl hnc ⊢
 rw [← hn] at h
 obtain ⟨w1, hw1⟩ := exq (w.alloc (.cells #[.int .i64 r, .int .i64 s, .slice a n cap] 26))
 have hb1 : Below w.heap.size w w1 := by rw [hw1]; exact (Below.refl _ _).alloc (Nat.le_refl _) _
 have hs1 : w.heap.size < w1.heap.size := by rw [hw1]; simp
 obtain ⟨g0, g1, g2⟩ := box3 hw1
 have hrd := hidI ((h.below hb1).mono hb1.size)
 replace hn := hidI hn
 replace hw1 := hidI hw1
 replace h := hidI h
 obtain ⟨F, hF⟩ := exq (isGr r s es)
 rw [← hF]
 replace hF := hidI hF
 go_enter Tryz.func113, Tryz.ntmps113
 go_wp2
 rw [← hw1.out]
 go_loopg [3] n (fun g i wr => ∃ k : Nat, k + g = n ∧ i = .int .i64 k ∧ Hid (∀ j, j < k → placeOk r s es j = true) ∧ Hid (Below w1.heap.size w1 wr))
 case atStart => exact ⟨0, by omega, rfl, hidI (fun j h => by omega), hidI (Below.refl _ _)⟩
 case round =>
  obtain ⟨k, hk, rfl, hp, hb⟩ := hrel
  have hsz := hb.out.size
  have q0 := below_cell g0 hb.out hs1
  have q1 := below_cell g1 hb.out hs1
  have q2 := below_cell g2 hb.out hs1
  have hbw : w.heap.size < wr.heap.size := by omega
  have hdr := below_dn (Below.refl wr.heap.size wr) 1
  by_cases hlt : k < n
  · obtain ⟨b, off, hab, hB, c0, c1, c2⟩ := ReadE.at3 (hrd.out.below hb.out) k (by have := hn.out; omega)
    obtain ⟨ef, hef⟩ := exq ((es.getD k e0).1)
    obtain ⟨el, hel⟩ := exq ((es.getD k e0).2.1)
    obtain ⟨et, het⟩ := exq ((es.getD k e0).2.2)
    rw [← hef] at c0
    rw [← hel] at c1
    rw [← het] at c2
    have hke : es.getD k e0 = (ef, el, et) := by rw [hef, hel, het]
    have hki : (k : Int) < (n : Int) := by omega
    have hbl : b < wr.heap.size := by omega
    subst hab
    have hce := specEdge wr.drew r s (some ⟨b, off, none⟩) n cap ef el et hs
    obtain ⟨bo, hbo⟩ := exq (edgeOk r s (ef, el, et))
    rw [← hbo] at hce
    have hbad : bo = false → F = false := by
     intro h
     rw [hF.out]
     exact isGr_not (k := k) (by have := hn.out; omega) (by unfold placeOk; rw [hke, ← hbo, h]; rfl)
    replace hbad := hidI hbad
    replace hef := hidI hef
    replace hel := hidI hel
    replace het := hidI het
    replace hk := hidI hk
    rcases Nat.eq_zero_or_pos k with hk0 | hk0
    · subst hk0
      rw [Nat.zero_mul, Nat.add_zero] at c0 c1 c2
      have hnx : bo = true → ∀ j, j < 0 + 1 → placeOk r s es j = true := by
       intro h j hj
       obtain rfl : j = 0 := by omega
       unfold placeOk
       rw [hke, ← hbo, h]
       rfl
      replace hbo := hidI hbo
      replace hke := hidI hke
      cases bo with
      | false =>
       have hfin := hidI (hbad.out rfl)
       replace hnx := hidI hnx
       go_wp2
       refine hideQ (fun _ _ d _ _ h => by cases d <;> exact h) (fun Q' hnorm hpan => ?_)
       refine wp_region_held_drew (S := (fun z => z.cell? ⟨w.heap.size, 0, none⟩ = some (.int .i64 r) ∧ z.cell? ⟨w.heap.size, 1, none⟩ = some (.int .i64 s) ∧ z.cell? ⟨w.heap.size, 2, none⟩ = some (.slice (some ⟨b, off, none⟩) n cap) ∧ z.cell? ⟨b, off, none⟩ = some (.int .i64 ef) ∧ z.cell? ⟨b, off + 1, none⟩ = some (.int .i64 el) ∧ z.cell? ⟨b, off + 2, none⟩ = some (.int .i64 et))) (by kernel_rfl) ?_ (fun hHeld => ?_)
       · try dsimp only
         ((repeat' apply And.intro) <;> assumption)
       refine tk 0 11 ?_
       refine tk 1 12 ?_
       refine tk 2 13 ?_
       refine tk 3 14 ?_
       refine tk 4 15 ?_
       refine tk 5 16 ?_
       refine rd 6 (fun K hK => ?_)
       rw [if_pos (by rfl)]
       go_simp
       go_at_call 141
       (with_reducible refine hce.mono ?_)
       rintro e w2 ⟨rfl, hb2'⟩
       have hbq := hdr.trans hb2'
       have p0 := below_cell q0 hbq hbw
       have p1 := below_cell q1 hbq hbw
       have p2 := below_cell q2 hbq hbw
       have p3 := below_cell c0 hbq hbl
       have p4 := below_cell c1 hbq hbl
       have p5 := below_cell c2 hbq hbl
       clear hce
       refine hK.out _ _ ?_ (fun hHeld => ?_)
       · try dsimp only
         ((repeat' apply And.intro) <;> assumption)
       clear hK
       try simp only [Act.put, lyA, lyB, lyC]
       refine tk 7 18 ?_
       refine tk 8 19 ?_
       refine tn 9 20 ?_
       refine tn 10 21 ?_
       refine tn 11 22 ?_
       refine tn 12 23 ?_
       refine tn 13 24 ?_
       refine tn 14 25 ?_
       refine tn 15 26 ?_
       refine tn 16 27 ?_
       refine tn 17 28 ?_
       refine tn 18 29 ?_
       refine tn 19 30 ?_
       refine tn 20 31 ?_
       refine tn 21 32 ?_
       refine tn 22 33 ?_
       refine tn 23 34 ?_
       refine tn 24 35 ?_
       refine tn 25 36 ?_
       refine tk 26 37 ?_
       refine wpAnyH_done (by kernel_rfl) ?_ _
       refine hnorm _ _ ?_
       clear hnorm hpan
       repeat clear hHeld
       try simp only [Exit.then]
       · skip
         have hbz := hb1.trans ((hb.out.trans (hbq.mono hsz)).mono hb1.size)
         clear hbq hb2'
         go_wp2
         go_ret
         exact ⟨ret_bool hfin.out.symm, hbz⟩
      | true =>
       replace hnx := hidI (hnx rfl)
       go_wp2
       refine hideQ (fun _ _ d _ _ h => by cases d <;> exact h) (fun Q' hnorm hpan => ?_)
       refine wp_region_held_drew (S := (fun z => z.cell? ⟨w.heap.size, 0, none⟩ = some (.int .i64 r) ∧ z.cell? ⟨w.heap.size, 1, none⟩ = some (.int .i64 s) ∧ z.cell? ⟨w.heap.size, 2, none⟩ = some (.slice (some ⟨b, off, none⟩) n cap) ∧ z.cell? ⟨b, off, none⟩ = some (.int .i64 ef) ∧ z.cell? ⟨b, off + 1, none⟩ = some (.int .i64 el) ∧ z.cell? ⟨b, off + 2, none⟩ = some (.int .i64 et))) (by kernel_rfl) ?_ (fun hHeld => ?_)
       · try dsimp only
         ((repeat' apply And.intro) <;> assumption)
       refine tk 0 11 ?_
       refine tk 1 12 ?_
       refine tk 2 13 ?_
       refine tk 3 14 ?_
       refine tk 4 15 ?_
       refine tk 5 16 ?_
       refine rd 6 (fun K hK => ?_)
       rw [if_pos (by rfl)]
       go_simp
       go_at_call 141
       (with_reducible refine hce.mono ?_)
       rintro e w2 ⟨rfl, hb2'⟩
       have hbq := hdr.trans hb2'
       have p0 := below_cell q0 hbq hbw
       have p1 := below_cell q1 hbq hbw
       have p2 := below_cell q2 hbq hbw
       have p3 := below_cell c0 hbq hbl
       have p4 := below_cell c1 hbq hbl
       have p5 := below_cell c2 hbq hbl
       clear hce
       refine hK.out _ _ ?_ (fun hHeld => ?_)
       · try dsimp only
         ((repeat' apply And.intro) <;> assumption)
       clear hK
       try simp only [Act.put, lyA, lyB, lyC]
       refine tk 7 18 ?_
       refine tk 8 19 ?_
       refine tg 9 20 ?_
       refine tg 10 21 ?_
       refine tg 11 22 ?_
       refine tn 12 23 ?_
       refine tn 13 24 ?_
       refine tn 14 25 ?_
       refine tn 15 26 ?_
       refine tn 16 27 ?_
       refine tn 17 28 ?_
       refine tn 18 29 ?_
       refine tn 19 30 ?_
       refine tn 20 31 ?_
       refine tn 21 32 ?_
       refine tn 22 33 ?_
       refine tn 23 34 ?_
       refine tn 24 35 ?_
       refine tg 25 36 ?_
       refine tk 26 37 ?_
       refine wpAnyH_done (by kernel_rfl) ?_ _
       refine hnorm _ _ ?_
       clear hnorm hpan
       repeat clear hHeld
       try simp only [Exit.then]
       · skip
         have hbz := hidI (hb.out.trans (hbq.mono hsz))
         clear hbq hb2'
         go_wp2
         go_roundg (n - (0 + 1))
         case rel => exact ⟨0 + 1, by have := hk.out; omega, by go_num, hnx, hbz⟩
         case measure => have := hk.out; omega
    · obtain ⟨kp, hkp⟩ : ∃ i, k = i + 1 := ⟨k - 1, by omega⟩
      obtain ⟨b', off', hab', _, d0, d1, d2⟩ := ReadE.at3 (hrd.out.below hb.out) kp (by have := hn.out; omega)
      cases hab'
      obtain ⟨df, hdf⟩ := exq ((es.getD kp e0).1)
      obtain ⟨dl, hdl⟩ := exq ((es.getD kp e0).2.1)
      obtain ⟨dt, hdt⟩ := exq ((es.getD kp e0).2.2)
      rw [← hdf] at d0
      rw [← hdl] at d1
      rw [← hdt] at d2
      have hkd : es.getD kp e0 = (df, dl, dt) := by rw [hdf, hdl, hdt]
      obtain ⟨cv, hcv⟩ := exq (cmpE (df, dl, dt) (ef, el, et))
      have hpl : bo = true → placeOk r s es k = decide (cv < 0) := by
       intro h
       unfold placeOk
       rw [show k - 1 = kp by omega, hke, hkd, ← hbo, ← hcv, h]
       simp
       omega
      have hk1 : (0 : Int) < (k : Int) := by omega
      have hk2 : (k : Int) > 0 := by omega
      have hk3 : (k : Int) - 1 = (kp : Int) := by omega
      have hk4 : (kp : Int) < (n : Int) := by omega
      have hwk2 : IntKind.i64.wrap (kp : Int) = (kp : Int) := IntWalk.i64_in _ (by omega)
      replace hkp := hidI hkp
      replace hbo := hidI hbo
      replace hke := hidI hke
      replace hkd := hidI hkd
      replace hdf := hidI hdf
      replace hdl := hidI hdl
      replace hdt := hidI hdt
      replace hcv := hidI hcv
      cases bo with
      | false =>
       have hfin := hidI (hbad.out rfl)
       replace hpl := hidI hpl
       go_wp2
       refine hideQ (fun _ _ d _ _ h => by cases d <;> exact h) (fun Q' hnorm hpan => ?_)
       refine wp_region_held_drew (S := (fun z => z.cell? ⟨w.heap.size, 0, none⟩ = some (.int .i64 r) ∧ z.cell? ⟨w.heap.size, 1, none⟩ = some (.int .i64 s) ∧ z.cell? ⟨w.heap.size, 2, none⟩ = some (.slice (some ⟨b, off, none⟩) n cap) ∧ z.cell? ⟨b, off + k * 3, none⟩ = some (.int .i64 ef) ∧ z.cell? ⟨b, off + k * 3 + 1, none⟩ = some (.int .i64 el) ∧ z.cell? ⟨b, off + k * 3 + 2, none⟩ = some (.int .i64 et) ∧ z.cell? ⟨b, off + kp * 3, none⟩ = some (.int .i64 df) ∧ z.cell? ⟨b, off + kp * 3 + 1, none⟩ = some (.int .i64 dl) ∧ z.cell? ⟨b, off + kp * 3 + 2, none⟩ = some (.int .i64 dt))) (by kernel_rfl) ?_ (fun hHeld => ?_)
       · try dsimp only
         ((repeat' apply And.intro) <;> assumption)
       refine tk 0 11 ?_
       refine tk 1 12 ?_
       refine tk 2 13 ?_
       refine tk 3 14 ?_
       refine tk 4 15 ?_
       refine tk 5 16 ?_
       refine rd 6 (fun K hK => ?_)
       rw [if_pos (by rfl)]
       go_simp
       go_at_call 141
       (with_reducible refine hce.mono ?_)
       rintro e w2 ⟨rfl, hb2'⟩
       have hbq := hdr.trans hb2'
       have p0 := below_cell q0 hbq hbw
       have p1 := below_cell q1 hbq hbw
       have p2 := below_cell q2 hbq hbw
       have p3 := below_cell c0 hbq hbl
       have p4 := below_cell c1 hbq hbl
       have p5 := below_cell c2 hbq hbl
       have p6 := below_cell d0 hbq hbl
       have p7 := below_cell d1 hbq hbl
       have p8 := below_cell d2 hbq hbl
       clear hce
       refine hK.out _ _ ?_ (fun hHeld => ?_)
       · try dsimp only
         ((repeat' apply And.intro) <;> assumption)
       clear hK
       try simp only [Act.put, lyA, lyB, lyC]
       refine tk 7 18 ?_
       refine tk 8 19 ?_
       refine tn 9 20 ?_
       refine tn 10 21 ?_
       refine tn 11 22 ?_
       refine tn 12 23 ?_
       refine tn 13 24 ?_
       refine tn 14 25 ?_
       refine tn 15 26 ?_
       refine tn 16 27 ?_
       refine tn 17 28 ?_
       refine tn 18 29 ?_
       refine tn 19 30 ?_
       refine tn 20 31 ?_
       refine tn 21 32 ?_
       refine tn 22 33 ?_
       refine tn 23 34 ?_
       refine tn 24 35 ?_
       refine tn 25 36 ?_
       refine tk 26 37 ?_
       refine wpAnyH_done (by kernel_rfl) ?_ _
       refine hnorm _ _ ?_
       clear hnorm hpan
       repeat clear hHeld
       try simp only [Exit.then]
       · skip
         have hbz := hb1.trans ((hb.out.trans (hbq.mono hsz)).mono hb1.size)
         clear hbq hb2'
         go_wp2
         go_ret
         exact ⟨ret_bool hfin.out.symm, hbz⟩
      | true =>
       have hpl2 := hpl rfl
       clear hpl
       by_cases hneg : cv < 0
       · have hnx : ∀ j, j < k + 1 → placeOk r s es j = true := by
          intro j hj
          by_cases hj2 : j = k
          · subst hj2; rw [hpl2]; simpa using hneg
          · exact hp.out j (by omega)
         have hneg2 : ¬ cv ≥ 0 := by omega
         have hneg3 : decide (0 ≤ cv) = false := by simp; omega
         replace hnx := hidI hnx
         replace hpl2 := hidI hpl2
         go_wp2
         refine hideQ (fun _ _ d _ _ h => by cases d <;> exact h) (fun Q' hnorm hpan => ?_)
         refine wp_region_held_drew (S := (fun z => z.cell? ⟨w.heap.size, 0, none⟩ = some (.int .i64 r) ∧ z.cell? ⟨w.heap.size, 1, none⟩ = some (.int .i64 s) ∧ z.cell? ⟨w.heap.size, 2, none⟩ = some (.slice (some ⟨b, off, none⟩) n cap) ∧ z.cell? ⟨b, off + k * 3, none⟩ = some (.int .i64 ef) ∧ z.cell? ⟨b, off + k * 3 + 1, none⟩ = some (.int .i64 el) ∧ z.cell? ⟨b, off + k * 3 + 2, none⟩ = some (.int .i64 et) ∧ z.cell? ⟨b, off + kp * 3, none⟩ = some (.int .i64 df) ∧ z.cell? ⟨b, off + kp * 3 + 1, none⟩ = some (.int .i64 dl) ∧ z.cell? ⟨b, off + kp * 3 + 2, none⟩ = some (.int .i64 dt))) (by kernel_rfl) ?_ (fun hHeld => ?_)
         · try dsimp only
           ((repeat' apply And.intro) <;> assumption)
         refine tk 0 11 ?_
         refine tk 1 12 ?_
         refine tk 2 13 ?_
         refine tk 3 14 ?_
         refine tk 4 15 ?_
         refine tk 5 16 ?_
         refine rd 6 (fun K hK => ?_)
         rw [if_pos (by rfl)]
         go_simp
         go_at_call 141
         (with_reducible refine hce.mono ?_)
         rintro e w2 ⟨rfl, hb2'⟩
         have hbq := hdr.trans hb2'
         have p0 := below_cell q0 hbq hbw
         have p1 := below_cell q1 hbq hbw
         have p2 := below_cell q2 hbq hbw
         have p3 := below_cell c0 hbq hbl
         have p4 := below_cell c1 hbq hbl
         have p5 := below_cell c2 hbq hbl
         have p6 := below_cell d0 hbq hbl
         have p7 := below_cell d1 hbq hbl
         have p8 := below_cell d2 hbq hbl
         clear hce
         have hcc := specCmpE w2 df dl dt ef el et
         rw [← hcv.out] at hcc
         refine hK.out _ _ ?_ (fun hHeld => ?_)
         · try dsimp only
           ((repeat' apply And.intro) <;> assumption)
         clear hK
         try simp only [Act.put, lyA, lyB, lyC]
         refine tk 7 18 ?_
         refine tk 8 19 ?_
         refine tg 9 20 ?_
         refine tg 10 21 ?_
         refine tg 11 22 ?_
         refine tg 12 23 ?_
         refine tg 13 24 ?_
         refine tg 14 25 ?_
         refine tg 15 26 ?_
         refine tg 16 27 ?_
         refine tg 17 28 ?_
         refine tg 18 29 ?_
         refine tg 19 30 ?_
         refine tg 20 31 ?_
         refine tg 21 32 ?_
         refine tg 22 33 ?_
         refine rd 23 (fun K hK => ?_)
         rw [if_pos (by kernel_rfl)]
         go_simp
         go_at_call 146
         (with_reducible refine hcc.mono ?_)
         rintro e w3 ⟨rfl, hb3'⟩
         replace hbq := hbq.trans (hb3'.mono hbq.size)
         clear p0 p1 p2 p3 p4 p5 p6 p7 p8
         have p0 := below_cell q0 hbq hbw
         have p1 := below_cell q1 hbq hbw
         have p2 := below_cell q2 hbq hbw
         have p3 := below_cell c0 hbq hbl
         have p4 := below_cell c1 hbq hbl
         have p5 := below_cell c2 hbq hbl
         have p6 := below_cell d0 hbq hbl
         have p7 := below_cell d1 hbq hbl
         have p8 := below_cell d2 hbq hbl
         clear hcc
         refine hK.out _ _ ?_ (fun hHeld => ?_)
         · try dsimp only
           ((repeat' apply And.intro) <;> assumption)
         clear hK
         try simp only [Act.put, lyA, lyB, lyC]
         refine tg 24 35 ?_
         refine tg 25 36 ?_
         refine tk 26 37 ?_
         refine wpAnyH_done (by kernel_rfl) ?_ _
         refine hnorm _ _ ?_
         clear hnorm hpan
         repeat clear hHeld
         try simp only [Exit.then]
         · skip
           have hbz := hidI (hb.out.trans (hbq.mono hsz))
           clear hbq hb2'
           go_wp2
           go_roundg (n - (k + 1))
           case rel => exact ⟨k + 1, by have := hk.out; omega, by go_num, hnx, hbz⟩
           case measure => have := hk.out; omega
       · have hfin : F = false := by rw [hF.out]; exact isGr_not (k := k) (by have := hn.out; omega) (by rw [hpl2]; simpa using hneg)
         have hneg2 : cv ≥ 0 := by omega
         have hneg3 : decide (0 ≤ cv) = true := by simp; omega
         replace hfin := hidI hfin
         replace hpl2 := hidI hpl2
         go_wp2
         refine hideQ (fun _ _ d _ _ h => by cases d <;> exact h) (fun Q' hnorm hpan => ?_)
         refine wp_region_held_drew (S := (fun z => z.cell? ⟨w.heap.size, 0, none⟩ = some (.int .i64 r) ∧ z.cell? ⟨w.heap.size, 1, none⟩ = some (.int .i64 s) ∧ z.cell? ⟨w.heap.size, 2, none⟩ = some (.slice (some ⟨b, off, none⟩) n cap) ∧ z.cell? ⟨b, off + k * 3, none⟩ = some (.int .i64 ef) ∧ z.cell? ⟨b, off + k * 3 + 1, none⟩ = some (.int .i64 el) ∧ z.cell? ⟨b, off + k * 3 + 2, none⟩ = some (.int .i64 et) ∧ z.cell? ⟨b, off + kp * 3, none⟩ = some (.int .i64 df) ∧ z.cell? ⟨b, off + kp * 3 + 1, none⟩ = some (.int .i64 dl) ∧ z.cell? ⟨b, off + kp * 3 + 2, none⟩ = some (.int .i64 dt))) (by kernel_rfl) ?_ (fun hHeld => ?_)
         · try dsimp only
           ((repeat' apply And.intro) <;> assumption)
         refine tk 0 11 ?_
         refine tk 1 12 ?_
         refine tk 2 13 ?_
         refine tk 3 14 ?_
         refine tk 4 15 ?_
         refine tk 5 16 ?_
         refine rd 6 (fun K hK => ?_)
         rw [if_pos (by rfl)]
         go_simp
         go_at_call 141
         (with_reducible refine hce.mono ?_)
         rintro e w2 ⟨rfl, hb2'⟩
         have hbq := hdr.trans hb2'
         have p0 := below_cell q0 hbq hbw
         have p1 := below_cell q1 hbq hbw
         have p2 := below_cell q2 hbq hbw
         have p3 := below_cell c0 hbq hbl
         have p4 := below_cell c1 hbq hbl
         have p5 := below_cell c2 hbq hbl
         have p6 := below_cell d0 hbq hbl
         have p7 := below_cell d1 hbq hbl
         have p8 := below_cell d2 hbq hbl
         clear hce
         have hcc := specCmpE w2 df dl dt ef el et
         rw [← hcv.out] at hcc
         refine hK.out _ _ ?_ (fun hHeld => ?_)
         · try dsimp only
           ((repeat' apply And.intro) <;> assumption)
         clear hK
         try simp only [Act.put, lyA, lyB, lyC]
         refine tk 7 18 ?_
         refine tk 8 19 ?_
         refine tg 9 20 ?_
         refine tg 10 21 ?_
         refine tg 11 22 ?_
         refine tg 12 23 ?_
         refine tg 13 24 ?_
         refine tg 14 25 ?_
         refine tg 15 26 ?_
         refine tg 16 27 ?_
         refine tg 17 28 ?_
         refine tg 18 29 ?_
         refine tg 19 30 ?_
         refine tg 20 31 ?_
         refine tg 21 32 ?_
         refine tg 22 33 ?_
         refine rd 23 (fun K hK => ?_)
         rw [if_pos (by kernel_rfl)]
         go_simp
         go_at_call 146
         (with_reducible refine hcc.mono ?_)
         rintro e w3 ⟨rfl, hb3'⟩
         replace hbq := hbq.trans (hb3'.mono hbq.size)
         clear p0 p1 p2 p3 p4 p5 p6 p7 p8
         have p0 := below_cell q0 hbq hbw
         have p1 := below_cell q1 hbq hbw
         have p2 := below_cell q2 hbq hbw
         have p3 := below_cell c0 hbq hbl
         have p4 := below_cell c1 hbq hbl
         have p5 := below_cell c2 hbq hbl
         have p6 := below_cell d0 hbq hbl
         have p7 := below_cell d1 hbq hbl
         have p8 := below_cell d2 hbq hbl
         clear hcc
         refine hK.out _ _ ?_ (fun hHeld => ?_)
         · try dsimp only
           ((repeat' apply And.intro) <;> assumption)
         clear hK
         try simp only [Act.put, lyA, lyB, lyC]
         refine tg 24 35 ?_
         refine tg 25 36 ?_
         refine tk 26 37 ?_
         refine wpAnyH_done (by kernel_rfl) ?_ _
         refine hnorm _ _ ?_
         clear hnorm hpan
         repeat clear hHeld
         try simp only [Exit.then]
         · skip
           have hbz := hb1.trans ((hb.out.trans (hbq.mono hsz)).mono hb1.size)
           clear hbq hb2'
           go_wp2
           go_ret
           exact ⟨ret_bool hfin.out.symm, hbz⟩
  · obtain rfl : k = n := by omega
    have hall : ∀ i, i < es.length → placeOk r s es i = true := by have := hn.out; rw [← this]; exact hp.out
    have hF2 : F = (decide (1 ≤ r ∧ r ≤ 3) && decide (1 ≤ s ∧ s ≤ 40) && decide (k ≤ 120)) := by
     rw [hF.out]
     unfold isGr
     have h1 : placesOk r s es es.length = true := by
      have : ∀ m, m ≤ es.length → placesOk r s es m = true := by
       intro m
       induction m with
       | zero => intro _; rfl
       | succ m ih => intro hm; rw [placesOk, ih (by omega), hall m (by omega)]; rfl
      exact this _ (Nat.le_refl _)
     rw [h1, hn.out, Bool.true_and]
    have i1 := in_any wr r 1 3
    have i2 := in_any wr s 1 40
    obtain ⟨b1, hb1e⟩ := exq (decide (1 ≤ r ∧ r ≤ 3))
    obtain ⟨b2, hb2e⟩ := exq (decide (1 ≤ s ∧ s ≤ 40))
    obtain ⟨b3, hb3e⟩ := exq (decide (k ≤ 120))
    have hb3i : decide ((k : Int) ≤ 120) = b3 := by rw [hb3e, decide_eq_decide]; omega
    rw [← hb1e] at i1 hF2
    rw [← hb2e] at i2 hF2
    rw [← hb3e] at hF2
    have hki : ¬ (k : Int) < (k : Int) := by omega
    have hbz := hb1.trans (hb.out.mono hb1.size)
    replace hb1e := hidI hb1e
    replace hb2e := hidI hb2e
    replace hb3e := hidI hb3e
    replace hF2 := hidI hF2
    replace hall := hidI hall
    replace hk := hidI hk
    go_wp2_with fail
    refine i1.mono ?_
    rintro e w2 ⟨rfl, rfl⟩
    cases b1 with
    | false =>
     go_wp2
     go_ret
     exact ⟨ret_bool (by rw [hF2.out]; simp), hbz⟩
    | true =>
     go_wp2_with fail
     refine i2.mono ?_
     rintro e w2 ⟨rfl, rfl⟩
     cases b2 with
     | false =>
      go_wp2
      go_ret
      exact ⟨ret_bool (by rw [hF2.out]; simp), hbz⟩
     | true =>
      go_wp2
      go_ret
      exact ⟨ret_bool (by rw [hF2.out]; simp), hbz⟩
theorem ret_cell2 {fn : Func} {p u : Tmp} {ty : TypeId} {fs : Array Field} (h : fn.results = #[.cell p ty, .tmp u]) {tmps : Array Value} {w : World} {g : Nat} {t : TypeId} {cs : Array Value} {fr : Nat × Nat} {x : Value} {R : Ending → World → Prop}
 (hp : tmps.getD p undef = .pointer (some ⟨g, 0, none⟩)) (hx : tmps.getD u undef = x) (hg : w.heap[g]? = some (.cells cs t fr))
 (hu : Tryz.prog.underlying ty = some (.struct fs)) (hi : (Tryz.prog.info? ty).map (·.size) = some cs.size) (hr : R (.returned (.tuple #[.agg cs, x])) w) :
 bodyPost Tryz.prog fn R .ret { tmps := tmps, defers := [] } w := by
 refine bodyPost_ret (v := .tuple #[.agg cs, x]) ?_ rfl hr
 have hp' : tmps[p]?.getD undef = .pointer (some ⟨g, 0, none⟩) := by simpa using hp
 have hx' : tmps[u]?.getD undef = x := by simpa using hx
 simp [results, h, hp', hx', asAddr, run_loadVar_row w g t ty cs fr _ hg hu rfl hi]
theorem specNewG (w : World) (r : Int) : Calls Tryz.prog 132 #[.int .i64 r] w (LwGraphBool w (if 1 ≤ r ∧ r ≤ 3 then r else 0) (if 1 ≤ r ∧ r ≤ 3 then 1 else 0) [] (decide (1 ≤ r ∧ r ≤ 3))) := by
 obtain ⟨b1, hb1⟩ := exq (decide (1 ≤ r ∧ r ≤ 3))
 obtain ⟨x1, hx1⟩ : ∃ x, x = (if 1 ≤ r ∧ r ≤ 3 then r else 0) := ⟨_, rfl⟩
 obtain ⟨x2, hx2⟩ : ∃ x, x = (if 1 ≤ r ∧ r ≤ 3 then (1 : Int) else 0) := ⟨_, rfl⟩
 obtain ⟨w1, hw1⟩ := exq (w.alloc (.cells #[.int .i64 0, .int .i64 0, .slice none 0 0] 26))
 have hbl : Below w.heap.size w w1 := by rw [hw1]; exact (Below.refl _ _).alloc (Nat.le_refl _) _
 have hk := heap_alloc_new w (.cells #[.int .i64 0, .int .i64 0, .slice none 0 0] 26)
 rw [← hw1] at hk
 obtain ⟨c0, c1, c2⟩ := cell3 hk
 have f1 := fun j => frozen_of_row w1 w.heap.size j _ _ hk
 have i1 := in_any w1 r 1 3
 rw [← hb1] at i1 ⊢
 rw [← hx1, ← hx2]
 simp at c0 c1 c2
 have hfin : ∀ y1 y2, LwGraphBool w y1 y2 [] b1 (.returned (.tuple #[.agg #[.int .i64 y1, .int .i64 y2, .slice none 0 0], .bool b1])) (((w1.setCell ⟨w.heap.size, 0, none⟩ (.int .i64 y1)).setCell ⟨w.heap.size, 1, none⟩ (.int .i64 y2)).setCell ⟨w.heap.size, 2, none⟩ (.slice none 0 0)) := by
  intro y1 y2
  refine ⟨none, 0, rfl, ?_, ?_⟩
  · exact ((OwnsS.nil _ _).row (by omega)).wide (Nat.le_refl _) (Nat.le_refl _)
  · exact ((hbl.setCell (p := ⟨w.heap.size, 0, none⟩) (by simp) _).setCell (p := ⟨w.heap.size, 1, none⟩) (by simp) _).setCell (p := ⟨w.heap.size, 2, none⟩) (by simp) _
 have hset : ∀ y1 y2, (((w1.setCell ⟨w.heap.size, 0, none⟩ (.int .i64 y1)).setCell ⟨w.heap.size, 1, none⟩ (.int .i64 y2)).setCell ⟨w.heap.size, 2, none⟩ (.slice none 0 0)).heap[w.heap.size]? = some (.cells #[.int .i64 y1, .int .i64 y2, .slice none 0 0] 26 (0, 0)) := fun y1 y2 => set3 hk _ _ _
 replace hw1 := hidI hw1
 replace hk := hidI hk
 replace hb1 := hidI hb1
 replace hx1 := hidI hx1
 replace hx2 := hidI hx2
 replace hfin := hidI hfin
 replace hset := hidI hset
 go_enter Tryz.func132, Tryz.ntmps132
 go_wp2_with fail
 rw [← hw1.out]
 refine i1.mono ?_
 rintro e w2 ⟨rfl, rfl⟩
 cases b1 with
 | false =>
  have e1 : x1 = 0 := by rw [hx1.out, if_neg (by have := hb1.out; simpa using this.symm)]
  have e2 : x2 = 0 := by rw [hx2.out, if_neg (by have := hb1.out; simpa using this.symm)]
  subst e1 e2
  go_wp2
  (try simp only [Exit.inBlock, Exit.then])
  refine ret_cell2 (x := .bool false) rfl rfl rfl (hset.out 0 0) Tryz.underlying26 sizeGraph ?_
  exact hfin.out 0 0
 | true =>
  have e1 : x1 = r := by rw [hx1.out, if_pos (by have := hb1.out; simpa using this.symm)]
  have e2 : x2 = 1 := by rw [hx2.out, if_pos (by have := hb1.out; simpa using this.symm)]
  subst e1 e2
  go_wp2
  (try simp only [Exit.inBlock, Exit.then])
  refine ret_cell2 (x := .bool true) rfl rfl rfl (hset.out _ 1) Tryz.underlying26 sizeGraph ?_
  exact hfin.out _ 1
def degE (v : Int) : List Ed → Int
 | [] => 0
 | e :: es => (if e.1 = v then 1 else 0) + (if e.2.2 = v then 1 else 0) + degE v es
theorem degE_append (v : Int) (a b : List Ed) : degE v (a ++ b) = degE v a + degE v b := by
 induction a with
 | nil => simp [degE]
 | cons e a ih => simp only [List.cons_append, degE, ih]; omega
theorem degE_bounds (v : Int) (es : List Ed) : 0 ≤ degE v es ∧ degE v es ≤ 2 * (es.length : Int) := by
 induction es with
 | nil => simp [degE]
 | cons e es ih =>
  simp only [degE, List.length_cons]
  split <;> split <;> omega
theorem take_one {es : List Ed} {k : Nat} (h : k < es.length) : es.take (k + 1) = es.take k ++ [es.getD k e0] := by
 rw [List.take_add_one, List.getElem?_eq_getElem h, List.getD_eq_getElem?_getD, List.getElem?_eq_getElem h]; rfl
theorem specDeg (w : World) (r s : Int) (v : Value) (es : List Ed) (x : Int) (h : ReadE w.heap.size w v es) (hl : es.length ≤ 1000000000) :
 Calls Tryz.prog 115 #[.agg #[.int .i64 r, .int .i64 s, v], .int .i64 x] w (LwInt w (degE x es)) := by
 obtain ⟨a, cap, rfl, hnc⟩ := h.form
 obtain ⟨n, hn⟩ := exq es.length
 rw [← hn] at hl hnc ⊢
 rw [← hn] at h
 obtain ⟨w1, hw1⟩ := exq (w.alloc (.cells #[.int .i64 r, .int .i64 s, .slice a n cap] 26))
 have hb1 : Below w.heap.size w w1 := by rw [hw1]; exact (Below.refl _ _).alloc (Nat.le_refl _) _
 have hs1 : w.heap.size < w1.heap.size := by rw [hw1]; simp
 obtain ⟨g0, g1, g2⟩ := box3 hw1
 have hrd := hidI (h.below hb1)
 replace hn := hidI hn
 replace hw1 := hidI hw1
 replace h := hidI h
 go_enter Tryz.func115, Tryz.ntmps115
 go_wp2
 rw [← hw1.out]
 go_loopg [5, 6] n (fun g d i wr => ∃ k : Nat, k + g = n ∧ i = .int .i64 k ∧ wr = w1 ∧ d = .int .i64 (degE x (es.take k)))
 case atStart => exact ⟨0, by omega, rfl, rfl, by simp [degE]⟩
 case round =>
  obtain ⟨k, hk, rfl, rfl, rfl⟩ := hrel
  obtain ⟨d, hd⟩ := exq (degE x (es.take k))
  have hdb := degE_bounds x (es.take k)
  rw [← hd] at hdb ⊢
  have hlen : (es.take k).length ≤ k := by rw [List.length_take]; omega
  by_cases hlt : k < n
  · obtain ⟨b, off, rfl, hB, c0, c1, c2⟩ := ReadE.at3 hrd.out k (by have := hn.out; omega)
    have hnext : degE x (es.take (k + 1)) = d + ((if (es.getD k e0).1 = x then 1 else 0) + (if (es.getD k e0).2.2 = x then 1 else 0)) := by
     rw [take_one (by have := hn.out; omega), degE_append, hd]; simp [degE]
    obtain ⟨f, hf⟩ := exq ((es.getD k e0).1)
    obtain ⟨t, ht⟩ := exq ((es.getD k e0).2.2)
    rw [← hf] at c0 hnext
    rw [← ht] at c2 hnext
    have hki : (k : Int) < (n : Int) := by omega
    have hd0 : 0 ≤ d := hdb.1
    have hd1 : d ≤ 2000000000 := by omega
    clear hdb hlen
    replace hd := hidI hd
    replace hf := hidI hf
    replace ht := hidI ht
    replace hnext := hidI hnext
    replace hk := hidI hk
    by_cases h1 : f = x
    · have t1 : (f == x) = true := by rw [beq_iff_eq]; exact h1
      have n1 : (if f = x then (1 : Int) else 0) = 1 := if_pos h1
      replace h1 := hidI h1
      replace n1 := hidI n1
      by_cases h2 : t = x
      · have t2 : (t == x) = true := by rw [beq_iff_eq]; exact h2
        have n2 : (if t = x then (1 : Int) else 0) = 1 := if_pos h2
        replace h2 := hidI h2
        replace n2 := hidI n2
        go_wp2
        go_roundg (n - (k + 1))
        case rel => exact ⟨k + 1, by have := hk.out; omega, by go_num, rfl, by rw [hnext.out, n1.out, n2.out]; go_num⟩
        case measure => have := hk.out; omega
      · have t2 : (t == x) = false := by rw [beq_eq_false_iff_ne]; exact h2
        have n2 : (if t = x then (1 : Int) else 0) = 0 := if_neg h2
        replace h2 := hidI h2
        replace n2 := hidI n2
        go_wp2
        go_roundg (n - (k + 1))
        case rel => exact ⟨k + 1, by have := hk.out; omega, by go_num, rfl, by rw [hnext.out, n1.out, n2.out]; go_num⟩
        case measure => have := hk.out; omega
    · have t1 : (f == x) = false := by rw [beq_eq_false_iff_ne]; exact h1
      have n1 : (if f = x then (1 : Int) else 0) = 0 := if_neg h1
      replace h1 := hidI h1
      replace n1 := hidI n1
      by_cases h2 : t = x
      · have t2 : (t == x) = true := by rw [beq_iff_eq]; exact h2
        have n2 : (if t = x then (1 : Int) else 0) = 1 := if_pos h2
        replace h2 := hidI h2
        replace n2 := hidI n2
        go_wp2
        go_roundg (n - (k + 1))
        case rel => exact ⟨k + 1, by have := hk.out; omega, by go_num, rfl, by rw [hnext.out, n1.out, n2.out]; go_num⟩
        case measure => have := hk.out; omega
      · have t2 : (t == x) = false := by rw [beq_eq_false_iff_ne]; exact h2
        have n2 : (if t = x then (1 : Int) else 0) = 0 := if_neg h2
        replace h2 := hidI h2
        replace n2 := hidI n2
        go_wp2
        go_roundg (n - (k + 1))
        case rel => exact ⟨k + 1, by have := hk.out; omega, by go_num, rfl, by rw [hnext.out, n1.out, n2.out]; go_num⟩
        case measure => have := hk.out; omega
  · obtain rfl : k = n := by omega
    have hfull : es.take k = es := List.take_of_length_le (by rw [← hn.out]; omega)
    rw [hfull] at hd
    have hki : ¬ (k : Int) < (k : Int) := by omega
    replace hd := hidI hd
    replace hfull := hidI hfull
    clear hdb hlen
    go_wp2
    go_ret
    exact ⟨by rw [hd.out]; rfl, hb1⟩
def eqG (r s : Int) (es : List Ed) (r' s' : Int) (es' : List Ed) : Bool := decide (r = r' ∧ s = s' ∧ es = es')
theorem list_ext_getD {es es' : List Ed} (hl : es.length = es'.length) (h : ∀ j, j < es.length → es.getD j e0 = es'.getD j e0) : es = es' := by
 apply List.ext_getElem hl
 intro i h1 h2
 have := h i h1
 rw [List.getD_eq_getElem?_getD, List.getD_eq_getElem?_getD, List.getElem?_eq_getElem h1, List.getElem?_eq_getElem h2] at this
 exact this
theorem specEqG (w : World) (r s r' s' : Int) (v v' : Value) (es es' : List Ed) (h : ReadE w.heap.size w v es) (h' : ReadE w.heap.size w v' es') (hl : es.length ≤ 1000000000) (hl' : es'.length ≤ 1000000000) :
 Calls Tryz.prog 15 #[.agg #[.int .i64 r, .int .i64 s, v], .agg #[.int .i64 r', .int .i64 s', v']] w (LwBool w (eqG r s es r' s' es')) := by
 obtain ⟨a, cap, rfl, hnc⟩ := h.form
 obtain ⟨a', cap', rfl, hnc'⟩ := h'.form
 obtain ⟨n, hn⟩ := exq es.length
 obtain ⟨n', hn'⟩ : ∃ n', n' = es'.length := ⟨_, rfl⟩
 rw [← hn] at hl hnc ⊢
 rw [← hn] at h
 rw [← hn'] at hl' hnc' ⊢
 rw [← hn'] at h'
 obtain ⟨w0, hw0⟩ := exq (w.alloc (.cells #[.int .i64 r, .int .i64 s, .slice a n cap] 26))
 obtain ⟨w1, hw1⟩ := exq (w0.alloc (.cells #[.int .i64 r', .int .i64 s', .slice a' n' cap'] 26))
 have hs0 : w0.heap.size = w.heap.size + 1 := by rw [hw0]; simp
 have hb0 : Below w.heap.size w w0 := by rw [hw0]; exact (Below.refl _ _).alloc (Nat.le_refl _) _
 have hb01 : Below w0.heap.size w0 w1 := by rw [hw1]; exact (Below.refl _ _).alloc (Nat.le_refl _) _
 have hb1 : Below w.heap.size w w1 := hb0.trans (hb01.mono hb0.size)
 obtain ⟨g0, g1, g2⟩ := box3 hw0
 obtain ⟨k0, k1, k2⟩ := box3 hw1
 rw [hs0] at k0 k1 k2
 replace g0 := below_cell g0 hb01 (by omega)
 replace g1 := below_cell g1 hb01 (by omega)
 replace g2 := below_cell g2 hb01 (by omega)
 have hrd := hidI (h.below hb1)
 have hrd' := hidI (h'.below hb1)
 have hw : (w.alloc (.cells #[.int .i64 r, .int .i64 s, .slice a n cap] 26)).alloc (.cells #[.int .i64 r', .int .i64 s', .slice a' n' cap'] 26) = w1 := by rw [hw1, hw0]
 obtain ⟨F, hF⟩ := exq (eqG r s es r' s' es')
 rw [← hF]
 replace hF := hidI hF
 replace hn := hidI hn
 replace hn' := hidI hn'
 replace hw0 := hidI hw0
 replace hw1 := hidI hw1
 replace hw := hidI hw
 replace hs0 := hidI hs0
 replace h := hidI h
 replace h' := hidI h'
 clear hb0 hb01
 go_enter Tryz.func15, Tryz.ntmps15
 by_cases q1 : r = r'
 case neg =>
  have t1 : (r != r') = true := by rw [bne_iff_ne]; exact q1
  have hF2 : F = false := by rw [hF.out]; unfold eqG; rw [decide_eq_false_iff_not]; intro hh; exact q1 hh.1
  replace q1 := hidI q1
  go_wp2
  rw [hw.out]
  go_wp2
  go_ret
  exact ⟨by first | rfl | (rw [hF2]; rfl), hb1⟩
 have t1 : (r != r') = false := by rw [bne_eq_false_iff_eq]; exact q1
 replace q1 := hidI q1
 by_cases q2 : s = s'
 case neg =>
  have t2 : (s != s') = true := by rw [bne_iff_ne]; exact q2
  have hF2 : F = false := by rw [hF.out]; unfold eqG; rw [decide_eq_false_iff_not]; intro hh; exact q2 hh.2.1
  replace q2 := hidI q2
  go_wp2
  rw [hw.out]
  go_wp2
  go_ret
  exact ⟨by first | rfl | (rw [hF2]; rfl), hb1⟩
 have t2 : (s != s') = false := by rw [bne_eq_false_iff_eq]; exact q2
 replace q2 := hidI q2
 by_cases q3 : n = n'
 case neg =>
  have t3 : ((n : Int) != (n' : Int)) = true := by rw [bne_iff_ne]; omega
  have hF2 : F = false := by rw [hF.out]; unfold eqG; rw [decide_eq_false_iff_not]; intro hh; exact q3 (by rw [hn.out, hn'.out, hh.2.2])
  replace q3 := hidI q3
  go_wp2
  rw [hw.out]
  go_wp2
  go_ret
  exact ⟨by first | rfl | (rw [hF2]; rfl), hb1⟩
 subst q3
 have t3 : ((n : Int) != (n : Int)) = false := by rw [bne_eq_false_iff_eq]
 go_wp2
 rw [hw.out]
 go_loopg [5] n (fun g i wr => ∃ k : Nat, k + g = n ∧ i = .int .i64 k ∧ Hid (∀ j, j < k → es.getD j e0 = es'.getD j e0) ∧ Hid (Below w1.heap.size w1 wr))
 case atStart => exact ⟨0, by omega, rfl, hidI (fun j h => by omega), hidI (Below.refl _ _)⟩
 case round =>
  obtain ⟨k, hk, rfl, hp, hb⟩ := hrel
  have hbz := hb1.trans (hb.out.mono hb1.size)
  have hs1 : w.heap.size + 2 = w1.heap.size := by rw [hw1.out]; have := hs0.out; simp; omega
  have p0 := below_cell g2 hb.out (by omega)
  have p1 := below_cell k2 hb.out (by omega)
  by_cases hlt : k < n
  · obtain ⟨b, off, rfl, hB, c0, c1, c2⟩ := ReadE.at3 (hrd.out.below (hb.out.mono hb1.size)) k (by have := hn.out; omega)
    obtain ⟨b', off', rfl, hB', d0, d1, d2⟩ := ReadE.at3 (hrd'.out.below (hb.out.mono hb1.size)) k (by have := hn'.out; omega)
    obtain ⟨f, hf⟩ := exq ((es.getD k e0).1)
    obtain ⟨l, hll⟩ := exq ((es.getD k e0).2.1)
    obtain ⟨t, ht⟩ := exq ((es.getD k e0).2.2)
    obtain ⟨f', hf'⟩ : ∃ z, z = (es'.getD k e0).1 := ⟨_, rfl⟩
    obtain ⟨l', hl2⟩ : ∃ z, z = (es'.getD k e0).2.1 := ⟨_, rfl⟩
    obtain ⟨t', ht'⟩ : ∃ z, z = (es'.getD k e0).2.2 := ⟨_, rfl⟩
    rw [← hf] at c0
    rw [← hll] at c1
    rw [← ht] at c2
    rw [← hf'] at d0
    rw [← hl2] at d1
    rw [← ht'] at d2
    have he1 : es.getD k e0 = (f, l, t) := by rw [hf, hll, ht]
    have he2 : es'.getD k e0 = (f', l', t') := by rw [hf', hl2, ht']
    have hki : (k : Int) < (n : Int) := by omega
    replace hf := hidI hf
    replace hll := hidI hll
    replace ht := hidI ht
    replace hf' := hidI hf'
    replace hl2 := hidI hl2
    replace ht' := hidI ht'
    replace he1 := hidI he1
    replace he2 := hidI he2
    replace hk := hidI hk
    by_cases e1 : (f, l, t) = (f', l', t')
    · have hx := e1
      rw [Prod.mk.injEq, Prod.mk.injEq] at hx
      obtain ⟨rfl, rfl, rfl⟩ := hx
      replace e1 := hidI e1
      go_wp2
      go_region
      all_goals
       go_wp2
       go_roundg (n - (k + 1))
       case rel => exact ⟨k + 1, by have := hk.out; omega, by go_num, hidI (fun j hj => by
        by_cases h2 : j < k
        · exact hp.out j h2
        · obtain rfl : j = k := by omega
          rw [he1.out, he2.out]), hidI (below_dn hb.out 1)⟩
       case measure => have := hk.out; omega
    · have hF2 : F = false := by
       rw [hF.out]; unfold eqG; rw [decide_eq_false_iff_not]; intro hh
       exact e1 (by rw [← he1.out, ← he2.out, hh.2.2])
      have hbd := below_dn hbz 1
      by_cases a1 : f = f'
      · subst a1
        by_cases a2 : l = l'
        · subst a2
          have u3 : (t == t') = false := by rw [beq_eq_false_iff_ne]; intro hh; exact e1 (by rw [hh])
          replace e1 := hidI e1
          go_wp2
          go_region
          all_goals
           go_wp2
           go_ret
           exact ⟨by first | rfl | (rw [hF2]; rfl), hbd⟩
        · have u2 : (l == l') = false := by rw [beq_eq_false_iff_ne]; exact a2
          replace a2 := hidI a2
          replace e1 := hidI e1
          go_wp2
          go_region
          all_goals
           go_wp2
           go_ret
           exact ⟨by first | rfl | (rw [hF2]; rfl), hbd⟩
      · have u1 : (f == f') = false := by rw [beq_eq_false_iff_ne]; exact a1
        replace a1 := hidI a1
        replace e1 := hidI e1
        go_wp2
        go_region
        all_goals
         go_wp2
         go_ret
         exact ⟨by first | rfl | (rw [hF2]; rfl), hbd⟩
  · obtain rfl : k = n := by omega
    have hF2 : F = true := by
     rw [hF.out]; unfold eqG; rw [decide_eq_true_eq]
     exact ⟨q1.out, q2.out, list_ext_getD (by rw [← hn.out, ← hn'.out]) (fun j hj => hp.out j (by have := hn.out; omega))⟩
    have hki : ¬ (k : Int) < (k : Int) := by omega
    go_wp2
    go_ret
    exact ⟨by first | rfl | (rw [hF2]; rfl), hbz⟩
abbrev OwnsE (w : World) (base : Nat) (v : Value) (es : List Ed) : Prop := OwnsS 72 3 w base v es.length (flatE es)
theorem OwnsE.litE (w : World) : OwnsE (w.alloc (.cells #[] 72)) w.heap.size (.slice (some ⟨w.heap.size, 0, none⟩) 0 0) [] := OwnsS.lit w
theorem wpList_pushE {w0 : World} {ops : Array Oper} {rest : List Oper} {o : Oper} {a : Act} {Q : Exit → Act → World → Prop} (hgd : o.guard = none) (s x : Operand)
 (ho : o.op = .call { callee := .builtin .append, args := #[s, x], argTypes := #[24, 24] }) (base : Nat) (v : Value) (es : List Ed) (f l t : Int)
 (hs : a.eval s = v) (hx : a.eval x = .slice (some ⟨w0.heap.size, 0, none⟩) 1 1) (hown : OwnsE w0 base v es) (hl : es.length ≤ 1000000000) (hbase : base ≤ w0.heap.size)
 (h : ∀ v' w', OwnsE w' base v' (es ++ [(f, l, t)]) → Below base w0 w' → wpList Tryz.prog ops Q rest (a.put o.dst v') w') :
 wpList Tryz.prog ops Q (o :: rest) a (w0.alloc (.cells #[.int .i64 f, .int .i64 l, .int .i64 t] 72)) := by
 obtain ⟨i0, hi, hz0, hz1, hz2⟩ := info_parts infoEdge
 refine wpList_append_own _ hgd s x 24 ho base 72 i0 _ 3 24 Tryz.underlying24 hi hz0 hz1 hz2 rfl (by decide) v es.length ((flatE es).map iv) hs (World.ownsRow.alloc hown _) ⟨w0.heap.size, 0, none⟩ 1 1 [iv f, iv l, iv t] hx rfl ?_ ?_ ?_ ?_ ?_ ?_
 · intro j u hj
   have hk := heap_alloc_new w0 (.cells #[.int .i64 f, .int .i64 l, .int .i64 t] 72)
   rw [addr_plus, Nat.zero_add]
   have c := cell_of_heap hk j
   match j, hj with
   | 0, hj => simp at hj; subst hj; simp [iv]
   | 1, hj => simp at hj; subst hj; simp [iv]
   | 2, hj => simp at hj; subst hj; simp [iv]
 · intro u hu
   simp at hu
   rcases hu with rfl | rfl | rfl <;> rfl
 · unfold maxLen; omega
 · omega
 · simp; omega
 · intro v' w' ho' hg _
   refine h v' w' (by unfold OwnsE OwnsS; rw [flatE_append]; simpa [flatE] using ho') ?_
   exact ((Below.refl base w0).alloc hbase _).grown hg (by simp; omega) (fun k hk => (World.ownsRow.lt hown k hk).1)
theorem wpList_pushAllE {w0 : World} {ops : Array Oper} {rest : List Oper} {o : Oper} {a : Act} {Q : Exit → Act → World → Prop} (hgd : o.guard = none) (s x : Operand)
 (ho : o.op = .call { callee := .builtin .append, args := #[s, x], argTypes := #[24, 24] }) (base : Nat) (v vx : Value) (es fs : List Ed) (B : Nat)
 (hs : a.eval s = v) (hx : a.eval x = vx) (hown : OwnsE w0 base v es) (hread : ReadE B w0 vx fs) (hl : es.length + fs.length ≤ 1000000000) (hbase : base ≤ w0.heap.size)
 (h : ∀ v' w', OwnsE w' base v' (es ++ fs) → Below base w0 w' → wpList Tryz.prog ops Q rest (a.put o.dst v') w') :
 wpList Tryz.prog ops Q (o :: rest) a w0 := by
 obtain ⟨i0, hi, hz0, hz1, hz2⟩ := info_parts infoEdge
 obtain ⟨hzl, _, ax, cap, rfl, ⟨hnil, _⟩, hr⟩ := hread
 rcases ax with _ | ad
 · have hy : fs = [] := by
    rcases hr with h0 | ⟨b, off, ha, _⟩
    · exact List.eq_nil_of_length_eq_zero h0
    · cases ha
   subst hy
   rw [hnil rfl] at hx
   refine wpList_append_own_none hgd s x 24 ho base 72 i0 3 Tryz.underlying24 hi v es.length ((flatE es).map iv) hs hown hx ?_
   exact h v w0 (by rw [List.append_nil]; exact hown) (Below.refl _ _)
 · refine wpList_append_own w0 hgd s x 24 ho base 72 i0 _ 3 24 Tryz.underlying24 hi hz0 hz1 hz2 rfl (by decide) v es.length ((flatE es).map iv) hs hown ad fs.length cap ((flatE fs).map iv) hx (by simpa using hzl) ?_ ?_ ?_ ?_ hbase ?_
   · intro j u hj
     rw [List.getElem?_map] at hj
     obtain ⟨y, hy, rfl⟩ := Option.map_eq_some_iff.1 hj
     have hjl : j < (flatE fs).length := (List.getElem?_eq_some_iff.1 hy).1
     rcases hr with h0 | ⟨b, off, ha, hB, hc⟩
     · rw [hzl, h0] at hjl; omega
     · cases ha
       have hcj := hc j (by omega)
       rw [List.getD_eq_getElem?_getD, hy] at hcj
       rw [addr_plus]
       simpa [iv] using hcj
   · intro u hu
     obtain ⟨y, _, rfl⟩ := List.mem_map.1 hu
     rfl
   · unfold maxLen; omega
   · omega
   · intro v' w' ho' hg _
     refine h v' w' (by unfold OwnsE OwnsS; rw [flatE_append, List.length_append, List.map_append]; exact ho') ?_
     exact (Below.refl base w0).grown hg hbase (fun k hk => (World.ownsRow.lt hown k hk).1)
theorem step_pushAllE {w0 : World} {o : Oper} {a : Act} {K : Act → World → Prop} {Q : Exit → Act → World → Prop} (s x : Operand)
 (ho : o.op = .call { callee := .builtin .append, args := #[s, x], argTypes := #[24, 24] }) (base : Nat) (v vx : Value) (es fs : List Ed) (B : Nat)
 (hs : a.eval s = v) (hx : a.eval x = vx) (hown : OwnsE w0 base v es) (hread : ReadE B w0 vx fs) (hl : es.length + fs.length ≤ 1000000000) (hbase : base ≤ w0.heap.size)
 (h : ∀ v' w', OwnsE w' base v' (es ++ fs) → Below base w0 w' → K (a.put o.dst v') w') :
 Oper.wp Tryz.prog o a w0 K Q := by
 obtain ⟨i0, hi, hz0, hz1, hz2⟩ := info_parts infoEdge
 obtain ⟨hzl, _, ax, cap, rfl, ⟨hnil, _⟩, hr⟩ := hread
 rcases ax with _ | ad
 · have hy : fs = [] := by
    rcases hr with h0 | ⟨b, off, ha, _⟩
    · exact List.eq_nil_of_length_eq_zero h0
    · cases ha
   subst hy
   rw [hnil rfl] at hx
   have hrun := run_append_owned_none (P := Tryz.prog) (w := w0) base 24 o.type 72 i0 3 Tryz.underlying24 hi v es.length ((flatE es).map iv) hown
   unfold Oper.wp
   simp [execOp, ho, resolve, invoke, builtin, hs, hx, hrun, Result.andThen]
   exact h v w0 (by rw [List.append_nil]; exact hown) (Below.refl _ _)
 · refine wp_append_own w0 s x 24 ho base 72 i0 _ 3 24 Tryz.underlying24 hi hz0 hz1 hz2 rfl (by decide) v es.length ((flatE es).map iv) hs hown ad fs.length cap ((flatE fs).map iv) hx (by simpa using hzl) ?_ ?_ ?_ ?_ hbase ?_
   · intro j u hj
     rw [List.getElem?_map] at hj
     obtain ⟨y, hy, rfl⟩ := Option.map_eq_some_iff.1 hj
     have hjl : j < (flatE fs).length := (List.getElem?_eq_some_iff.1 hy).1
     rcases hr with h0 | ⟨b, off, ha, hB, hc⟩
     · rw [hzl, h0] at hjl; omega
     · cases ha
       have hcj := hc j (by omega)
       rw [List.getD_eq_getElem?_getD, hy] at hcj
       rw [addr_plus]
       simpa [iv] using hcj
   · intro u hu
     obtain ⟨y, _, rfl⟩ := List.mem_map.1 hu
     rfl
   · unfold maxLen; omega
   · omega
   · intro v' w' ho' hg _
     refine h v' w' (by unfold OwnsE OwnsS; rw [flatE_append, List.length_append, List.map_append]; exact ho') ?_
     exact (Below.refl base w0).grown hg hbase (fun k hk => (World.ownsRow.lt hown k hk).1)
set_option maxHeartbeats 1600000 in
theorem specCopy (w : World) (r s : Int) (v : Value) (es : List Ed) (h : ReadE w.heap.size w v es) (hl : es.length ≤ 1000000000) :
 Calls Tryz.prog 117 #[.agg #[.int .i64 r, .int .i64 s, v]] w (LwGraph w r s es) := by
 obtain ⟨a, cap, rfl, hnc⟩ := h.form
 obtain ⟨n, hn⟩ := exq es.length
 rw [← hn] at hl hnc ⊢
 rw [← hn] at h
 obtain ⟨w1, hw1⟩ := exq ((w.alloc (.cells #[.int .i64 r, .int .i64 s, .slice a n cap] 26)).alloc (.cells #[.int .i64 0, .int .i64 0, .slice none 0 0] 26))
 have hb1 : Below w.heap.size w w1 := by rw [hw1]; exact ((Below.refl _ _).alloc (Nat.le_refl _) _).alloc (by simp) _
 have hs1 : w1.heap.size = w.heap.size + 1 + 1 := by rw [hw1]; simp
 have hg := heap_box w (.cells #[.int .i64 r, .int .i64 s, .slice a n cap] 26) (.cells #[.int .i64 0, .int .i64 0, .slice none 0 0] 26)
 have hk := heap_alloc_new (w.alloc (.cells #[.int .i64 r, .int .i64 s, .slice a n cap] 26)) (.cells #[.int .i64 0, .int .i64 0, .slice none 0 0] 26)
 rw [← hw1] at hg hk
 rw [show (w.alloc (.cells #[.int .i64 r, .int .i64 s, .slice a n cap] 26)).heap.size = w.heap.size + 1 by simp] at hk
 have g0 : w1.cell? ⟨w.heap.size, 0, none⟩ = some (.int .i64 r) := by simpa using cell_of_heap hg 0
 have g1 : w1.cell? ⟨w.heap.size, 1, none⟩ = some (.int .i64 s) := by simpa using cell_of_heap hg 1
 have g2 : w1.cell? ⟨w.heap.size, 2, none⟩ = some (.slice a n cap) := by simpa using cell_of_heap hg 2
 clear hg
 obtain ⟨w2, hw2⟩ := exq ((w1.alloc (.cells #[] 72)).drew)
 have hb2 : Below w1.heap.size w1 w2 := by rw [hw2]; exact below_dn ((Below.refl w1.heap.size w1).alloc (Nat.le_refl _) _) 1
 have hown : OwnsE w2 w1.heap.size (.slice (some ⟨w1.heap.size, 0, none⟩) 0 0) [] := by rw [hw2]; exact OwnsE.litE w1
 have hrd := (h.below hb1).below (hb2.mono hb1.size)
 have q0 := below_cell g0 hb2 (by omega)
 have q1 := below_cell g1 hb2 (by omega)
 have q2 := below_cell g2 hb2 (by omega)
 have hk2 : w2.heap[w.heap.size + 1]? = some (.cells #[.int .i64 0, .int .i64 0, .slice none 0 0] 26 (0, 0)) := by rw [hb2.block _ (by omega)]; exact hk
 replace hn := hidI hn
 replace hw1 := hidI hw1
 replace hw2 := hidI hw2
 replace hk := hidI hk
 replace hk2 := hidI hk2
 replace hown := hidI hown
 replace hrd := hidI hrd
 replace h := hidI h
 replace hs1 := hidI hs1
 go_enter Tryz.func117, Tryz.ntmps117
 go_wp2
 rw [← hw1.out]
 refine hideQ (fun _ _ d _ _ h => by cases d <;> exact h) (fun Q' hnorm hpan => ?_)
 refine wp_region_held_drew (S := (fun z => z.cell? ⟨w.heap.size, 0, none⟩ = some (.int .i64 r) ∧ z.cell? ⟨w.heap.size, 1, none⟩ = some (.int .i64 s) ∧ z.cell? ⟨w.heap.size, 2, none⟩ = some (.slice a n cap))) (by kernel_rfl) ?_ (fun hHeld => ?_)
 · try dsimp only
   (first | ((repeat' apply And.intro) <;> assumption) | go_keep)
 refine tk 0 3 ?_
 refine tk 1 4 ?_
 refine tk 2 5 ?_
 refine tk 3 6 ?_
 refine tk 5 8 ?_
 refine tk 6 9 ?_
 refine rd 4 (fun K hK => ?_)
 rw [if_pos (by rfl)]
 go_simp
 rw [← hw2.out]
 refine hK.out _ _ ?_ (fun hHeld => ?_)
 · try dsimp only
   (first | ((repeat' apply And.intro) <;> assumption) | go_keep)
 clear hK
 try simp only [Act.put, lyA, lyB, lyC]
 refine rd 7 (fun K hK => ?_)
 rw [if_pos (by rfl)]
 refine step_pushAllE _ _ rfl w1.heap.size _ _ [] es w.heap.size rfl rfl hown.out (by exact hn.out ▸ hrd.out) (by have := hn.out; simp; omega) hb2.size ?_
 intro v' w3 hown3 hb3'
 have p0 := below_cell q0 hb3' (by have := hs1.out; omega)
 have p1 := below_cell q1 hb3' (by have := hs1.out; omega)
 have p2 := below_cell q2 hb3' (by have := hs1.out; omega)
 have hk3 : w3.heap[w.heap.size + 1]? = some (.cells #[.int .i64 0, .int .i64 0, .slice none 0 0] 26 (0, 0)) := by rw [hb3'.block _ (by have := hs1.out; omega)]; exact hk2.out
 rw [List.nil_append] at hown3
 obtain ⟨a3, m3, c3, rfl⟩ := hown3.form3
 have hrow := hown3.row (by have := hn.out; omega)
 have hm3 := hrow.cap.1
 obtain ⟨c0, c1, c2⟩ := cell3 hk3
 have f1 := fun j => frozen_of_row w3 (w.heap.size + 1) j _ _ hk3
 simp at c0 c1 c2
 replace hk3 := hidI hk3
 replace hrow := hidI hrow
 replace hm3 := hidI hm3
 replace hown3 := hidI hown3
 refine hK.out _ _ ?_ (fun hHeld => ?_)
 · try dsimp only
   (first | ((repeat' apply And.intro) <;> assumption) | go_keep)
 clear hK
 try simp only [Act.put, lyA, lyB, lyC]
 refine tk 8 11 ?_
 refine rd 9 (fun K hK => ?_)
 rw [if_pos (by rfl)]
 go_simp
 refine hK.out _ _ ?_ (fun hHeld => ?_)
 · try dsimp only
   (first | ((repeat' apply And.intro) <;> assumption) | go_keep)
 clear hK
 try simp only [Act.put, lyA, lyB, lyC]
 refine wpAnyH_done (by kernel_rfl) ?_ _
 refine hnorm _ _ ?_
 clear hnorm hpan
 repeat clear hHeld
 try simp only [Exit.then]
 go_wp2
 (try simp only [Exit.inBlock, Exit.then])
 refine ret_cell rfl (g := w.heap.size + 1) rfl (set3 hk3.out _ _ _) Tryz.underlying26 sizeGraph ?_
 have hm3' := hm3.out
 have hs := hs1.out
 subst hm3'
 refine ⟨a3, c3, rfl, ?_, ?_⟩
 · refine RowS.wide (RowS.keep hrow.out (fun k h1 h2 => ?_)) (show w.heap.size ≤ w1.heap.size by omega) (by simp [World.setCell])
   rw [Below.heap_setCell _ _ _ _ (show k ≠ w.heap.size + 1 by omega), Below.heap_setCell _ _ _ _ (show k ≠ w.heap.size + 1 by omega), Below.heap_setCell _ _ _ _ (show k ≠ w.heap.size + 1 by omega)]
 · have hbz := hb1.trans ((hb2.trans hb3').mono hb1.size)
   exact ((hbz.setCell (p := ⟨w.heap.size + 1, 0, none⟩) (by simp) _).setCell (p := ⟨w.heap.size + 1, 1, none⟩) (by simp) _).setCell (p := ⟨w.heap.size + 1, 2, none⟩) (by simp) _
theorem LwGraph.form {w w' : World} {r s : Int} {es : List Ed} {e : Ending} (h : LwGraph w r s es e w') : ∃ a cap, e = .returned (.agg #[.int .i64 r, .int .i64 s, .slice a es.length cap]) ∧ RowS 72 3 w' w.heap.size w'.heap.size (.slice a es.length cap) es.length (flatE es) ∧ Below w.heap.size w w' := h
end Go.Proofs.YtpjlamnjiilgbaaGreat
