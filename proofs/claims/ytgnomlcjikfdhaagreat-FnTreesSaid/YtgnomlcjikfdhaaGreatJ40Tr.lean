import Derived.WalkKit
import Derived.Deep.Cut
import Derived.Test.YtgnomlcjikfdhaaGreatJ39Tr
import Derived.Test.YtgnomlcjikfdhaaGreatJ30Tr
import Derived.Test.YtgnomlcjikfdhaaGreatJ3Tr
import Derived.Test.YtgnomlcjikfdhaaGreatJ1Tr
import Derived.Test.YtgnomlcjikfdhaaGreatJ5Tr
import Derived.Test.YtgnomlcjikfdhaaGreatRows
namespace Go.Proofs.YtgnomlcjikfdhaaGreat
open Go.RowKit
set_option linter.unusedVariables false
set_option linter.unusedSimpArgs false
theorem loL_length (r s : Int) (es : List Ed) (e : Ed) : (loL r s es e).length ≤ 81 := by
 unfold loL
 split
 · have h1 := mulL_length (pathA r s es 0 e.1 ++ [e.2.1]) (invL (pathA r s es 0 e.2.2))
   have h2 := pathA_length r s es 0 e.1
   have h3 := pathA_length r s es 0 e.2.2
   rw [invL_length, List.length_append, List.length_singleton] at h1
   omega
 · simp
theorem readI_one2 (w : World) (l : Int) : ReadI (w.heap.size + 1) (w.alloc (.cells #[.int .i64 l] 3)) (.slice (some ⟨w.heap.size, 0, none⟩) 1 1) [l] := by
 refine ⟨by simp, some ⟨w.heap.size, 0, none⟩, 1, rfl, ⟨fun h => (by cases h), by simp⟩, .inr ⟨w.heap.size, 0, rfl, by omega, fun i hi => ?_⟩⟩
 have h0 : i = 0 := by simpa using hi
 subst h0
 have := heap_alloc_new w (.cells #[.int .i64 l] 3)
 rw [cell_of_heap this]; rfl
structure LoSt (w0 w : World) (r s : Int) (v : Value) (f l t : Int) : Prop where
 bel : Below w0.heap.size w0 w
 g0 : w.cell? ⟨w0.heap.size, 0, none⟩ = some (.int .i64 r)
 g1 : w.cell? ⟨w0.heap.size, 1, none⟩ = some (.int .i64 s)
 g2 : w.cell? ⟨w0.heap.size, 2, none⟩ = some v
 e0 : w.cell? ⟨w0.heap.size + 1, 0, none⟩ = some (.int .i64 f)
 e1 : w.cell? ⟨w0.heap.size + 1, 1, none⟩ = some (.int .i64 l)
 e2 : w.cell? ⟨w0.heap.size + 1, 2, none⟩ = some (.int .i64 t)
 lt : w0.heap.size + 2 ≤ w.heap.size
theorem LoSt.below {w0 w w' : World} {r s f l t : Int} {v : Value} (h : LoSt w0 w r s v f l t) (hb : Below (w0.heap.size + 2) w w') : LoSt w0 w' r s v f l t := by
 obtain ⟨h1, h2, h3, h4, h5, h6, h7, h8⟩ := h
 have := hb.size
 exact ⟨h1.trans (hb.mono (by omega)), below_cell h2 hb (by omega), below_cell h3 hb (by omega), below_cell h4 hb (by omega), below_cell h5 hb (by omega), below_cell h6 hb (by omega), below_cell h7 hb (by omega), by omega⟩
set_option maxRecDepth 100000 in
set_option maxHeartbeats 3200000 in
theorem specLoopOf (w : World) (r s : Int) (v : Value) (es : List Ed) (f l t : Int) (h : ReadE w.heap.size w v es) (hs : -9223372036854775808 ≤ s ∧ s ≤ 9223372036854775807) (hl : es.length ≤ 10000000) :
 Calls Tryz.prog 20 #[.agg #[.int .i64 r, .int .i64 s, v], .agg #[.int .i64 f, .int .i64 l, .int .i64 t]] w (IntsRet w (loL r s es (f, l, t))) := by
 obtain ⟨a, cap, rfl, hnc⟩ := h.form
 obtain ⟨n, hn⟩ := exq es.length
 rw [← hn] at hl hnc ⊢
 rw [← hn] at h
 obtain ⟨w0, hw0⟩ := exq (w.alloc (.cells #[.int .i64 r, .int .i64 s, .slice a n cap] 26))
 have hb0 : Below w.heap.size w w0 := by rw [hw0]; exact (Below.refl _ _).alloc (Nat.le_refl _) _
 have hs0 : w0.heap.size = w.heap.size + 1 := by rw [hw0]; simp
 obtain ⟨g0, g1, g2⟩ := box3 hw0
 obtain ⟨w1, hw1⟩ := exq (w0.alloc (.cells #[.int .i64 f, .int .i64 l, .int .i64 t] 36))
 have hb01 : Below w0.heap.size w0 w1 := by rw [hw1]; exact (Below.refl _ _).alloc (Nat.le_refl _) _
 have hb1 : Below w.heap.size w w1 := hb0.trans (hb01.mono (by omega))
 have hs1 : w1.heap.size = w.heap.size + 1 + 1 := by rw [hw1]; simp; omega
 obtain ⟨e0_, e1_, e2_⟩ := box3 hw1
 rw [hs0] at e0_ e1_ e2_
 have hlo1 : LoSt w w1 r s (.slice a n cap) f l t := ⟨hb1, below_cell g0 hb01 (by omega), below_cell g1 hb01 (by omega), below_cell g2 hb01 (by omega), e0_, e1_, e2_, by omega⟩
 obtain ⟨F, hF⟩ := exq (loL r s es (f, l, t))
 rw [← hF]
 obtain ⟨B, hB⟩ := exq (isFo r s es)
 have hno : (B = false ∨ (f, l, t) ∉ es) → F = [] := fun q => by
  rw [hF]; unfold loL; rw [if_neg]
  rintro ⟨q1, q2⟩
  rcases q with q | q
  · rw [← hB, q] at q1; cases q1
  · exact q q2
 obtain ⟨X, hX⟩ := exq (pathA r s es 0 f)
 obtain ⟨Y, hY⟩ := exq (pathA r s es 0 t)
 have hXl : X.length ≤ 40 := by rw [hX]; exact pathA_length r s es 0 f
 have hYl : Y.length ≤ 40 := by rw [hY]; exact pathA_length r s es 0 t
 have hyes : B = true → (f, l, t) ∈ es → F = mulL (X ++ [l]) (invL Y) := fun q1 q2 => by
  rw [hF, hX, hY]; unfold loL; rw [if_pos ⟨hB ▸ q1, q2⟩]
 have hcf := fun (W : World) (hW : Below w.heap.size w W) => specFold W r s (.slice a n cap) es ((h.below hW).mono hW.size) hs (by omega)
 have hcX := fun (W : World) (hW : Below w.heap.size w W) => specTreeWordO W r s (.slice a n cap) es f ((h.below hW).mono hW.size) hs (by omega)
 have hcY := fun (W : World) (hW : Below w.heap.size w W) => specTreeWord W r s (.slice a n cap) es t ((h.below hW).mono hW.size) hs (by omega)
 rw [← hB] at hcf
 rw [← hX] at hcX
 rw [← hY] at hcY
 replace hcf := hidI hcf
 replace hcX := hidI hcX
 replace hcY := hidI hcY
 replace hno := hidI hno
 replace hyes := hidI hyes
 replace hF := hidI hF
 replace hX := hidI hX
 replace hY := hidI hY
 replace hB := hidI hB
 replace hn := hidI hn
 replace h := hidI h
 have hw1' : w1 = (w.alloc (.cells #[.int .i64 r, .int .i64 s, .slice a n cap] 26)).alloc (.cells #[.int .i64 f, .int .i64 l, .int .i64 t] 36) := by rw [hw1, hw0]
 have hw1s := hidI hw1'.symm
 have hrd1 := hidI (h.out.below hb1)
 have hp0 : Hid (false = decide ((f, l, t) ∈ es.take 0)) := hidI (by simp)
 obtain ⟨-, g0, g1, g2, e0_, e1_, e2_, hlt⟩ := id hlo1
 replace hlo1 := hidI hlo1
 replace hw1' := hidI hw1'
 replace hw1 := hidI hw1
 replace hw0 := hidI hw0
 replace hs0 := hidI hs0
 replace hs1 := hidI hs1
 clear hb0 hb01 hb1
 go_enter Tryz.func20, Tryz.ntmps20
 go_upto_region 1 with fail
 rw [hw1s.out]
 go_wp2
 go_loopg [5, 6] n (fun g p_ kv_ wr => ∃ (k d : Nat) (p : Bool), k + g = n ∧ kv_ = .int .i64 k ∧ p_ = .bool p ∧ Hid (p = decide ((f, l, t) ∈ es.take k)) ∧ Hid (wr = w1.drewN d))
 case atStart => exact ⟨0, 0, false, by omega, rfl, rfl, hp0, hidI rfl⟩
 case round =>
  clear hp0
  obtain ⟨k, d, p, hk, rfl, rfl, hp, hwr⟩ := hrel
  have hwr' := hwr.out
  subst hwr'
  by_cases hlk : k < n
  · have hki : (k : Int) < (n : Int) := by omega
    have hkl : k < es.length := by have := hn.out; omega
    obtain ⟨bt, ot, rfl, hbt, y0, y1, y2⟩ := ReadE.at3 hrd1.out k hkl
    obtain ⟨f', l', t', hE'⟩ : ∃ f l t, es.getD k e0 = (f, l, t) := ⟨_, _, _, rfl⟩
    rw [hE'] at y0 y1 y2
    simp only at y0 y1 y2
    have hstep : ∀ p', p' = (p || decide ((f', l', t') = (f, l, t))) → p' = decide ((f, l, t) ∈ es.take (k + 1)) := fun p' q => by
     rw [q, hp.out, ← Bool.decide_or]
     refine decide_eq_decide.2 ?_
     rw [take_mem hkl, hE']
    replace hstep := hidI hstep
    replace hE' := hidI hE'
    replace hk := hidI hk
    cases p with
    | true =>
     have hp' := hidI (hstep.out true (by simp))
     go_wp2
     go_region
     go_wp2
     go_roundg (n - (k + 1))
     case rel => exact ⟨k + 1, d + 1, true, by have := hk.out; omega, by go_num, rfl, hp', hidI rfl⟩
     case measure => have := hk.out; omega
    | false =>
     have hne : (f', l', t') ≠ (f, l, t) → Hid (false = decide ((f, l, t) ∈ es.take (k + 1))) := fun q => hidI (hstep.out false (by rw [decide_eq_false q]; rfl))
     have hee : (f', l', t') = (f, l, t) → Hid (true = decide ((f, l, t) ∈ es.take (k + 1))) := fun q => hidI (hstep.out true (by rw [decide_eq_true q]; rfl))
     replace hne := hidI hne
     replace hee := hidI hee
     by_cases z1 : f' = f
     · by_cases z2 : l' = l
       · by_cases z3 : t' = t
         · have hp' := hee.out (by rw [z1, z2, z3])
           rw [z1] at y0
           rw [z2] at y1
           rw [z3] at y2
           clear z1 z2 z3
           go_wp2
           go_region
           go_wp2
           go_roundg (n - (k + 1))
           case rel => exact ⟨k + 1, d + 1, true, by have := hk.out; omega, by go_num, rfl, hp', hidI rfl⟩
           case measure => have := hk.out; omega
         · have hp' := hne.out (by intro hh; simp at hh; exact z3 hh.2.2)
           rw [z1] at y0
           rw [z2] at y1
           clear z1 z2
           go_wp2
           go_region
           go_wp2
           go_roundg (n - (k + 1))
           case rel => exact ⟨k + 1, d + 1, false, by have := hk.out; omega, by go_num, rfl, hp', hidI rfl⟩
           case measure => have := hk.out; omega
       · have hp' := hne.out (by intro hh; simp at hh; exact z2 hh.2.1)
         rw [z1] at y0
         clear z1
         go_wp2
         go_region
         go_wp2
         go_roundg (n - (k + 1))
         case rel => exact ⟨k + 1, d + 1, false, by have := hk.out; omega, by go_num, rfl, hp', hidI rfl⟩
         case measure => have := hk.out; omega
     · have hp' := hne.out (by intro hh; simp at hh; exact z1 hh.1)
       go_wp2
       go_region
       go_wp2
       go_roundg (n - (k + 1))
       case rel => exact ⟨k + 1, d + 1, false, by have := hk.out; omega, by go_num, rfl, hp', hidI rfl⟩
       case measure => have := hk.out; omega
  · obtain rfl : k = n := by omega
    have hki : ¬ (k : Int) < (k : Int) := by omega
    have hpT : p = decide ((f, l, t) ∈ es) := by rw [hp.out, List.take_of_length_le (by have := hn.out; omega)]
    obtain ⟨w2, hw2⟩ := exq (w1.drewN d)
    have hlo2 : LoSt w w2 r s (.slice a k cap) f l t := by rw [hw2]; exact hlo1.out.below (below_dn (Below.refl _ _) d)
    rw [← hw2]
    have hcw := hcf.out w2 hlo2.bel
    obtain ⟨-, g0, g1, g2, e0_, e1_, e2_, -⟩ := id hlo2
    replace hk := hidI hk
    replace hp := hidI hp
    replace hw2 := hidI hw2
    by_cases hok : B = true ∧ p = true
    case neg =>
     have hF0 : F = [] := by
      refine hno.out ?_
      cases hBB : B with
      | false => exact .inl rfl
      | true =>
       refine .inr fun q => hok ⟨hBB, ?_⟩
       rw [hpT, decide_eq_true q]
     have hfin : ∀ W, Below w2.heap.size w2 W → IntsRet w F (.returned (.slice (some ⟨W.heap.size, 0, none⟩) 0 0)) (W.alloc (.cells #[] 3)) := fun W hW => by
      rw [hF0]
      have hb := hlo2.bel.trans (hW.mono hlo2.bel.size)
      exact ⟨_, rfl, ((OwnsI.lit W).row (by simp)).wide hb.size (Nat.le_refl _), hb.trans (((Below.refl W.heap.size W).alloc (Nat.le_refl _) _).mono hb.size)⟩
     replace hfin := hidI hfin
     replace hpT := hidI hpT
     replace hF0 := hidI hF0
     replace hlo2 := hidI hlo2
     cases B with
     | false =>
      replace hok := hidI hok
      go_wp2_with (go_at_call 12; refine hcw.mono ?_; rintro e w4 ⟨rfl, hb4⟩)
      have hr := hidI (hfin.out w4 hb4)
      clear hb4
      go_wp2
      go_ret
      exact hr.out
     | true =>
      cases p with
      | true => exact absurd ⟨rfl, rfl⟩ hok
      | false =>
       replace hok := hidI hok
       go_wp2_with (go_at_call 12; refine hcw.mono ?_; rintro e w4 ⟨rfl, hb4⟩)
       have hr := hidI (hfin.out w4 hb4)
       clear hb4
       go_wp2
       go_ret
       exact hr.out
    obtain ⟨rfl, rfl⟩ := hok
    have hFe := hidI (hyes.out rfl (of_decide_eq_true hpT.symm))
    replace hpT := hidI hpT
    replace hlo2 := hidI hlo2
    go_upto_region 8 with (go_at_call 12; refine hcw.mono ?_; rintro e w4 ⟨rfl, hb4⟩)
    obtain ⟨wd, hwd⟩ := exq w4.drew
    have hst : LoSt w wd r s (.slice a k cap) f l t := by rw [hwd]; exact (hlo2.out.below (hb4.mono hlo2.out.lt)).below (below_dn (Below.refl _ _) 1)
    obtain ⟨-, g0, g1, g2, e0_, e1_, e2_, -⟩ := id hst
    have hlt3 := hst.lt
    obtain ⟨B2, hB2⟩ := exq (w.heap.size + 2)
    have hlt4 : B2 ≤ wd.heap.size := by omega
    replace hst := hidI hst
    replace hwd := hidI hwd
    replace hB2 := hidI hB2
    clear hb4 hcw hlt3
    go_wp2
    refine hideQ (fun _ _ d _ _ h => by cases d <;> exact h) (fun Q' hnorm hpan => ?_)
    refine wp_region_held_drew (S := (fun W0 => W0.cell? ⟨w.heap.size, 0, none⟩ = some (.int .i64 r) ∧ W0.cell? ⟨w.heap.size, 1, none⟩ = some (.int .i64 s) ∧ W0.cell? ⟨w.heap.size, 2, none⟩ = some (.slice a k cap) ∧ W0.cell? ⟨w.heap.size + 1, 0, none⟩ = some (.int .i64 f) ∧ W0.cell? ⟨w.heap.size + 1, 1, none⟩ = some (.int .i64 l) ∧ W0.cell? ⟨w.heap.size + 1, 2, none⟩ = some (.int .i64 t))) (by kernel_rfl) ?_ (fun hHeld => ?_)
    · try dsimp only
      rw [← hwd.out]; exact ⟨g0, g1, g2, e0_, e1_, e2_⟩
    rw [← hwd.out] at hHeld ⊢
    refine tk 0 32 ?_
    refine tk 1 33 ?_
    refine tk 2 34 ?_
    refine tk 4 36 ?_
    refine tk 5 37 ?_
    refine tk 8 40 ?_
    refine tk 9 41 ?_
    refine tk 10 42 ?_
    refine wpAnyH_ready (rs := [3, 6]) (by kernel_rfl) (by simp) ?_
    refine AllReadyH.cons rfl (fun K hK => ?_) ?_
    ·
     rw [if_pos (by first | rfl | kernel_rfl)]
     go_simp
     go_at_call 19
     (with_reducible refine (hcX.out wd hst.out.bel).mono ?_)
     rintro e w3 ⟨v3, rfl, ho3, hbn⟩
     have hlt5 := hbn.size
     have hB3 : B2 ≤ wd.heap.size := by have := hst.out.lt; have := hB2.out; omega
     obtain ⟨a3, m3, c3, rfl⟩ := OwnsI.form4 ho3
     replace hst := hidI (hst.out.below (hbn.mono (by have := hst.out.lt; omega)))
     obtain ⟨-, g0, g1, g2, e0_, e1_, e2_, -⟩ := id hst.out
     replace ho3 := hidI (ho3.mono hB3)
     clear hbn
     refine hK.out _ _ ?_ (fun hHeld => ?_)
     · try dsimp only
       exact ⟨g0, g1, g2, e0_, e1_, e2_⟩
     clear hK
     try simp only [Act.put, lyA, lyB, lyC]
     refine rd 6 (fun K hK => ?_)
     rw [if_pos (by first | rfl | kernel_rfl)]
     go_simp
     obtain ⟨w6, hw6⟩ := exq (w3.alloc (.cells #[.int .i64 l] 3))
     have hbn : Below w3.heap.size w3 w6 := by rw [hw6]; exact (Below.refl _ _).alloc (Nat.le_refl _) _
     have hlt6 : w6.heap.size = w3.heap.size + 1 := by rw [hw6]; simp
     have hr6 := hidI (readI_one2 w3 l)
     rw [← hw6] at hr6
     rw [← hw6]
     replace hw6 := hidI hw6
     replace ho3 := hidI (ownI_other ho3.out (fun k hk => hbn.block k (World.ownsRow.lt ho3.out k hk).2))
     replace hst := hidI (hst.out.below (hbn.mono (by have := hst.out.lt; omega)))
     obtain ⟨-, g0, g1, g2, e0_, e1_, e2_, -⟩ := id hst.out
     clear hbn
     refine hK.out _ _ ?_ (fun hHeld => ?_)
     · try dsimp only
       exact ⟨g0, g1, g2, e0_, e1_, e2_⟩
     clear hK
     try simp only [Act.put, lyA, lyB, lyC]
     refine rd 7 (fun K hK => ?_)
     rw [if_pos (by first | rfl | kernel_rfl)]
     have hB7 : B2 ≤ w6.heap.size := by have := hst.out.lt; have := hB2.out; omega
     refine step_pushAllI_at _ _ rfl B2 (.slice a3 m3 c3) _ X [l] (w3.heap.size + 1) rfl rfl ho3.out hr6.out (by simp; omega) hB7 ?_
     intro v7 w7 ho7 hg7 hat7
     obtain ⟨a7, m7, c7, rfl⟩ := OwnsI.form4 ho7
     have hbn : Below B2 w6 w7 := (Below.refl B2 w6).grown hg7 hB7 (fun q hq => (World.ownsRow.lt ho3.out q hq).1)
     replace hst := hidI (hst.out.below (hbn.mono (by have := hB2.out; omega)))
     obtain ⟨-, g0, g1, g2, e0_, e1_, e2_, -⟩ := id hst.out
     have hr7 := hidI ((OwnsI.row ho7 (by simp; omega)).read)
     clear hbn hg7 hat7 ho7
     refine hK.out _ _ ?_ (fun hHeld => ?_)
     · try dsimp only
       exact ⟨g0, g1, g2, e0_, e1_, e2_⟩
     clear hK
     try simp only [Act.put, lyA, lyB, lyC]
     refine rd 11 (fun K hK => ?_)
     rw [if_pos (by first | rfl | kernel_rfl)]
     go_simp
     go_at_call 19
     (with_reducible refine (hcY.out w7 hst.out.bel).mono ?_)
     rintro e w8 ⟨v8, rfl, hr8, hbn⟩
     have hlt8 := hbn.size
     replace hst := hidI (hst.out.below (hbn.mono (by have := hst.out.lt; omega)))
     obtain ⟨-, g0, g1, g2, e0_, e1_, e2_, -⟩ := id hst.out
     replace hr7 := hidI ((hr7.out.below hbn).mono hbn.size)
     replace hr8 := hidI hr8.read
     clear hbn
     refine hK.out _ _ ?_ (fun hHeld => ?_)
     · try dsimp only
       exact ⟨g0, g1, g2, e0_, e1_, e2_⟩
     clear hK
     try simp only [Act.put, lyA, lyB, lyC]
     refine rd 12 (fun K hK => ?_)
     rw [if_pos (by first | rfl | kernel_rfl)]
     go_simp
     go_at_call 28
     (with_reducible refine (specInv w8 v8 Y hr8.out (by omega)).mono ?_)
     rintro e w9 ⟨v9, rfl, hr9, hbn⟩
     have hlt9 := hbn.size
     replace hst := hidI (hst.out.below (hbn.mono (by have := hst.out.lt; omega)))
     obtain ⟨-, g0, g1, g2, e0_, e1_, e2_, -⟩ := id hst.out
     replace hr7 := hidI ((hr7.out.below hbn).mono hbn.size)
     replace hr9 := hidI hr9.read
     clear hbn
     refine hK.out _ _ ?_ (fun hHeld => ?_)
     · try dsimp only
       exact ⟨g0, g1, g2, e0_, e1_, e2_⟩
     clear hK
     try simp only [Act.put, lyA, lyB, lyC]
     refine rd 13 (fun K hK => ?_)
     rw [if_pos (by first | rfl | kernel_rfl)]
     go_simp
     go_at_call 29
     (with_reducible refine (specMul w9 (.slice a7 m7 c7) v9 (X ++ [l]) (invL Y) hr7.out hr9.out (by simp; omega) (by rw [invL_length]; omega)).mono ?_)
     rintro e w10 ⟨v10, rfl, hr10, hbn⟩
     have hbl := hst.out.bel
     have hr : Hid (IntsRet w F (.returned v10) w10) := hidI (by rw [hFe.out]; exact ⟨v10, rfl, hr10.wide hbl.size (Nat.le_refl _), hbl.trans (hbn.mono hbl.size)⟩)
     replace hst := hidI (hst.out.below (hbn.mono (by have := hst.out.lt; omega)))
     obtain ⟨-, g0, g1, g2, e0_, e1_, e2_, -⟩ := id hst.out
     clear hbn hr10 hbl
     refine hK.out _ _ ?_ (fun hHeld => ?_)
     · try dsimp only
       exact ⟨g0, g1, g2, e0_, e1_, e2_⟩
     clear hK
     try simp only [Act.put, lyA, lyB, lyC]
     refine tk 14 4 ?_
     refine wpAnyH_done (by kernel_rfl) ?_ _
     refine hnorm _ _ ?_
     clear hnorm hpan
     repeat clear hHeld
     try simp only [Exit.then]
     go_wp2
     go_ret
     exact hr.out
    refine AllReadyH.cons rfl (fun K hK => ?_) AllReadyH.nil
    rw [if_pos (by first | rfl | kernel_rfl)]
    go_simp
    obtain ⟨w6, hw6⟩ := exq (wd.alloc (.cells #[.int .i64 l] 3))
    have hbn : Below wd.heap.size wd w6 := by rw [hw6]; exact (Below.refl _ _).alloc (Nat.le_refl _) _
    have hlt6 : w6.heap.size = wd.heap.size + 1 := by rw [hw6]; simp
    have hr6 := hidI (readI_one2 wd l)
    rw [← hw6] at hr6
    rw [← hw6]
    replace hw6 := hidI hw6
    replace hst := hidI (hst.out.below (hbn.mono (by have := hst.out.lt; omega)))
    obtain ⟨-, g0, g1, g2, e0_, e1_, e2_, -⟩ := id hst.out
    clear hbn
    refine hK.out _ _ ?_ (fun hHeld => ?_)
    · try dsimp only
      exact ⟨g0, g1, g2, e0_, e1_, e2_⟩
    clear hK
    try simp only [Act.put, lyA, lyB, lyC]
    refine rd 3 (fun K hK => ?_)
    rw [if_pos (by first | rfl | kernel_rfl)]
    go_simp
    go_at_call 19
    (with_reducible refine (hcX.out w6 hst.out.bel).mono ?_)
    rintro e w3 ⟨v3, rfl, ho3, hbn⟩
    have hlt5 := hbn.size
    have hB3 : B2 ≤ w6.heap.size := by have := hst.out.lt; have := hB2.out; omega
    obtain ⟨a3, m3, c3, rfl⟩ := OwnsI.form4 ho3
    replace hst := hidI (hst.out.below (hbn.mono (by have := hst.out.lt; omega)))
    obtain ⟨-, g0, g1, g2, e0_, e1_, e2_, -⟩ := id hst.out
    replace ho3 := hidI (ho3.mono hB3)
    replace hr6 := hidI (hr6.out.below (hbn.mono (by omega)))
    clear hbn
    refine hK.out _ _ ?_ (fun hHeld => ?_)
    · try dsimp only
      exact ⟨g0, g1, g2, e0_, e1_, e2_⟩
    clear hK
    try simp only [Act.put, lyA, lyB, lyC]
    refine rd 7 (fun K hK => ?_)
    rw [if_pos (by first | rfl | kernel_rfl)]
    have hB7 : B2 ≤ w3.heap.size := by have := hst.out.lt; have := hB2.out; omega
    refine step_pushAllI_at _ _ rfl B2 (.slice a3 m3 c3) _ X [l] (wd.heap.size + 1) rfl rfl ho3.out hr6.out (by simp; omega) hB7 ?_
    intro v7 w7 ho7 hg7 hat7
    obtain ⟨a7, m7, c7, rfl⟩ := OwnsI.form4 ho7
    have hbn : Below B2 w3 w7 := (Below.refl B2 w3).grown hg7 hB7 (fun q hq => (World.ownsRow.lt ho3.out q hq).1)
    replace hst := hidI (hst.out.below (hbn.mono (by have := hB2.out; omega)))
    obtain ⟨-, g0, g1, g2, e0_, e1_, e2_, -⟩ := id hst.out
    have hr7 := hidI ((OwnsI.row ho7 (by simp; omega)).read)
    clear hbn hg7 hat7 ho7
    refine hK.out _ _ ?_ (fun hHeld => ?_)
    · try dsimp only
      exact ⟨g0, g1, g2, e0_, e1_, e2_⟩
    clear hK
    try simp only [Act.put, lyA, lyB, lyC]
    refine rd 11 (fun K hK => ?_)
    rw [if_pos (by first | rfl | kernel_rfl)]
    go_simp
    go_at_call 19
    (with_reducible refine (hcY.out w7 hst.out.bel).mono ?_)
    rintro e w8 ⟨v8, rfl, hr8, hbn⟩
    have hlt8 := hbn.size
    replace hst := hidI (hst.out.below (hbn.mono (by have := hst.out.lt; omega)))
    obtain ⟨-, g0, g1, g2, e0_, e1_, e2_, -⟩ := id hst.out
    replace hr7 := hidI ((hr7.out.below hbn).mono hbn.size)
    replace hr8 := hidI hr8.read
    clear hbn
    refine hK.out _ _ ?_ (fun hHeld => ?_)
    · try dsimp only
      exact ⟨g0, g1, g2, e0_, e1_, e2_⟩
    clear hK
    try simp only [Act.put, lyA, lyB, lyC]
    refine rd 12 (fun K hK => ?_)
    rw [if_pos (by first | rfl | kernel_rfl)]
    go_simp
    go_at_call 28
    (with_reducible refine (specInv w8 v8 Y hr8.out (by omega)).mono ?_)
    rintro e w9 ⟨v9, rfl, hr9, hbn⟩
    have hlt9 := hbn.size
    replace hst := hidI (hst.out.below (hbn.mono (by have := hst.out.lt; omega)))
    obtain ⟨-, g0, g1, g2, e0_, e1_, e2_, -⟩ := id hst.out
    replace hr7 := hidI ((hr7.out.below hbn).mono hbn.size)
    replace hr9 := hidI hr9.read
    clear hbn
    refine hK.out _ _ ?_ (fun hHeld => ?_)
    · try dsimp only
      exact ⟨g0, g1, g2, e0_, e1_, e2_⟩
    clear hK
    try simp only [Act.put, lyA, lyB, lyC]
    refine rd 13 (fun K hK => ?_)
    rw [if_pos (by first | rfl | kernel_rfl)]
    go_simp
    go_at_call 29
    (with_reducible refine (specMul w9 (.slice a7 m7 c7) v9 (X ++ [l]) (invL Y) hr7.out hr9.out (by simp; omega) (by rw [invL_length]; omega)).mono ?_)
    rintro e w10 ⟨v10, rfl, hr10, hbn⟩
    have hbl := hst.out.bel
    have hr : Hid (IntsRet w F (.returned v10) w10) := hidI (by rw [hFe.out]; exact ⟨v10, rfl, hr10.wide hbl.size (Nat.le_refl _), hbl.trans (hbn.mono hbl.size)⟩)
    replace hst := hidI (hst.out.below (hbn.mono (by have := hst.out.lt; omega)))
    obtain ⟨-, g0, g1, g2, e0_, e1_, e2_, -⟩ := id hst.out
    clear hbn hr10 hbl
    refine hK.out _ _ ?_ (fun hHeld => ?_)
    · try dsimp only
      exact ⟨g0, g1, g2, e0_, e1_, e2_⟩
    clear hK
    try simp only [Act.put, lyA, lyB, lyC]
    refine tk 14 4 ?_
    refine wpAnyH_done (by kernel_rfl) ?_ _
    refine hnorm _ _ ?_
    clear hnorm hpan
    repeat clear hHeld
    try simp only [Exit.then]
    go_wp2
    go_ret
    exact hr.out
end Go.Proofs.YtgnomlcjikfdhaaGreat
namespace Go.Proofs.YtgnomlcjikfdhaaGreat
open Go.RowKit
set_option linter.unusedVariables false
set_option linter.unusedSimpArgs false
theorem areInv (w : World) (y x : Int) (hy : -9223372036854775808 ≤ y ∧ y ≤ 9223372036854775807) (hx : -9223372036854775808 ≤ x ∧ x ≤ 9223372036854775807) (b : Bool) (hb : inv y x = b) :
 Calls Tryz.prog 167 #[.int .i64 y, .int .i64 x] w fun e w' => e = .returned (.bool b) ∧ w = w' := by
 have he : y = ng x ∧ y ≠ 0 ∧ y ≠ -9223372036854775808 ↔ y + x = 0 ∧ x ≠ 0 := by
  by_cases h1 : x = -9223372036854775808
  · subst h1; rw [ng_min]; omega
  · rw [ng_of (by omega) hx.2]; omega
 by_cases h1 : y = ng x
 · have g1 : (y == wrap64 (-x)) = true := by rw [beq_iff_eq]; exact h1
   by_cases h2 : y = 0
   · have g2 : (y != 0) = false := by rw [bne_eq_false_iff_eq]; exact h2
     have hbb : b = false := by rw [← hb]; unfold inv; rw [decide_eq_false_iff_not, ← he]; exact fun h => h.2.1 h2
     subst hbb
     clear hb he h1 h2
     go_enter Tryz.func167, Tryz.ntmps167
     go_wp2
     go_ret
     exact ⟨rfl, rfl⟩
   · have g2 : (y != 0) = true := by rw [bne_iff_ne]; exact h2
     by_cases h3 : y = -9223372036854775808
     · have g3 : (y != -9223372036854775808) = false := by rw [bne_eq_false_iff_eq]; exact h3
       have hbb : b = false := by rw [← hb]; unfold inv; rw [decide_eq_false_iff_not, ← he]; exact fun h => h.2.2 h3
       subst hbb
       clear hb he h1 h2 h3
       go_enter Tryz.func167, Tryz.ntmps167
       go_wp2
       go_ret
       exact ⟨rfl, rfl⟩
     · have g3 : (y != -9223372036854775808) = true := by rw [bne_iff_ne]; exact h3
       have hbb : b = true := by rw [← hb]; unfold inv; rw [decide_eq_true_eq, ← he]; exact ⟨h1, h2, h3⟩
       subst hbb
       clear hb he h1 h2 h3
       go_enter Tryz.func167, Tryz.ntmps167
       go_wp2
       go_ret
       exact ⟨rfl, rfl⟩
 · have g1 : (y == wrap64 (-x)) = false := by rw [beq_eq_false_iff_ne]; exact h1
   have hbb : b = false := by rw [← hb]; unfold inv; rw [decide_eq_false_iff_not, ← he]; exact fun h => h1 h.1
   subst hbb
   clear hb he h1
   go_enter Tryz.func167, Tryz.ntmps167
   go_wp2
   go_ret
   exact ⟨rfl, rfl⟩
end Go.Proofs.YtgnomlcjikfdhaaGreat
