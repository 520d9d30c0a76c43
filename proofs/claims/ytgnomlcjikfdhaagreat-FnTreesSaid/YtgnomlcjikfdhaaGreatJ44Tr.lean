import Derived.Test.YtgnomlcjikfdhaaGreatJ43Tr
namespace Go.Proofs.YtgnomlcjikfdhaaGreat
open Go.RowKit Go.Maps
set_option linter.unusedVariables false
set_option linter.unusedSimpArgs false
theorem intsRet_nil {w W : World} (hW : Below w.heap.size w W) : IntsRet w [] (.returned (.slice none 0 0)) W := ⟨_, rfl, ⟨by simp, .inl ⟨rfl, rfl⟩⟩, hW⟩
set_option maxRecDepth 100000 in
set_option maxHeartbeats 3200000 in
theorem progLoopOf (w : World) (r s : Int) (v : Value) (es : List Ed) (f l t : Int) (h : ReadE w.heap.size w v es) (hl : es.length ≤ 10000000) :
 Calls Tryz.prog 17 #[.agg #[.int .i64 r, .int .i64 s, v], .agg #[.int .i64 f, .int .i64 l, .int .i64 t]] w (IntsRet w (loL r s es (f, l, t))) := by
 obtain ⟨a, cap, rfl, hnc⟩ := h.form
 obtain ⟨n, hn⟩ := exq es.length
 rw [← hn] at hl hnc ⊢
 rw [← hn] at h
 obtain ⟨w0, hw0⟩ := exq (w.alloc (.cells #[.int .i64 r, .int .i64 s, .slice a n cap] 26))
 have hb0 : Below w.heap.size w w0 := by rw [hw0]; exact (Below.refl _ _).alloc (Nat.le_refl _) _
 have hs0 : w0.heap.size = w.heap.size + 1 := by rw [hw0]; simp
 obtain ⟨g0, g1, g2⟩ := box3 hw0
 obtain ⟨w1, hw1⟩ := exq (w0.alloc (.cells #[.int .i64 f, .int .i64 l, .int .i64 t] 36))
 have hb01 : Below w0.heap.size w0 w1 := by rw [hw1]; exact (Below.refl _ _).alloc (Nat.le_refl _) _
 have hb1 : Below w.heap.size w w1 := hb0.trans (hb01.mono (by omega))
 have hs1 : w1.heap.size = w.heap.size + 1 + 1 := by rw [hw1]; simp; omega
 obtain ⟨e0_, e1_, e2_⟩ := box3 hw1
 rw [hs0] at e0_ e1_ e2_
 replace g0 := below_cell g0 hb01 (by omega)
 replace g1 := below_cell g1 hb01 (by omega)
 replace g2 := below_cell g2 hb01 (by omega)
 have hct := treeIn_any w1 r s (.slice a n cap) es ((h.below hb1).mono hb1.size) (by omega)
 obtain ⟨F, hF⟩ := exq (loL r s es (f, l, t))
 rw [← hF]
 have hno : (¬ isFo r s es = true ∨ (f, l, t) ∉ es) → F = [] := fun q => by
  rw [hF]; unfold loL; rw [if_neg]
  rintro ⟨q1, q2⟩
  rcases q with q | q
  · exact q q1
  · exact q q2
 have hyes : isFo r s es = true → (f, l, t) ∈ es → F = mulL (wdA (foundA r es 0) f ++ [l]) (invL (wdA (foundA r es 0) t)) := fun q1 q2 => by
  rw [hF]; unfold loL; rw [if_pos ⟨q1, q2⟩, path_wd q1, path_wd q1]
 have hhas := fun (W : World) (hW : Below w.heap.size w W) => hasE_any W w.heap.size (.slice a n cap) es (f, l, t) hW.size (h.below hW) (by omega)
 replace hno := hidI hno
 replace hyes := hidI hyes
 replace hhas := hidI hhas
 replace hF := hidI hF
 replace hn := hidI hn
 replace h := hidI h
 have hw1' : w1 = (w.alloc (.cells #[.int .i64 r, .int .i64 s, .slice a n cap] 26)).alloc (.cells #[.int .i64 f, .int .i64 l, .int .i64 t] 36) := by rw [hw1, hw0]
 have hw1s := hidI hw1'.symm
 have hsl : w.heap.size + 1 < w1.heap.size := by omega
 replace hw1' := hidI hw1'
 replace hw1 := hidI hw1
 replace hw0 := hidI hw0
 replace hs0 := hidI hs0
 replace hs1 := hidI hs1
 clear hb0 hb01
 go_enter Tryz.func17, Tryz.ntmps17
 go_upto_region 1 with fail
 rw [hw1s.out]
 go_wp2_with fail
 refine hct.mono ?_
 rintro e w2 (⟨hf, vF, rfl, hread, hb2⟩ | ⟨hf, rfl, hb2⟩)
 case inr =>
  have hfin := hidI (show IntsRet w F (.returned (.slice none 0 0)) w2 by rw [hno.out (.inl (by rw [hf]; decide))]; exact intsRet_nil (hb1.trans (hb2.mono hb1.size)))
  clear hct
  replace hf := hidI hf
  go_wp2
  go_ret
  exact hfin.out
 clear hct
 have hb12 := hidI (hb1.trans (hb2.mono hb1.size))
 replace g0 := below_cell g0 hb2 (by omega)
 replace g1 := below_cell g1 hb2 (by omega)
 replace g2 := below_cell g2 hb2 (by omega)
 replace e0_ := below_cell e0_ hb2 hsl
 replace e1_ := below_cell e1_ hb2 hsl
 replace e2_ := below_cell e2_ hb2 hsl
 have hs2 := hb2.size
 have hcc := hhas.out w2 hb12.out
 have hlim := fo_lim hf
 have hgood := foundA_good hf (u := 0) (by omega)
 obtain ⟨S, hS⟩ := exq (foundA r es 0)
 rw [← hS] at hgood hread hyes
 have hSl : S.length ≤ 40 := by have := hgood.length; omega
 by_cases hmem : (f, l, t) ∈ es
 case neg =>
  rw [decide_eq_false hmem] at hcc
  have hF0 := hidI (hno.out (.inr hmem))
  replace hmem := hidI hmem
  replace hf := hidI hf
  replace hgood := hidI hgood
  replace hread := hidI hread
  replace hS := hidI hS
  replace hlim := hidI hlim
  clear hb2
  go_wp2_with (go_at_call 52; refine hcc.mono ?_; rintro e w3 ⟨rfl, hb3⟩)
  have hfin := hidI (show IntsRet w F (.returned (.slice none 0 0)) w3 by rw [hF0.out]; exact intsRet_nil (hb12.out.trans (hb3.mono hb12.out.size)))
  go_wp2
  go_ret
  exact hfin.out
 rw [decide_eq_true hmem] at hcc
 have hin : -9223372036854775808 ≤ l ∧ l ≤ 9223372036854775807 := by
  obtain ⟨i, hi, hie⟩ := List.getElem_of_mem hmem
  unfold isFo at hf
  rw [Bool.and_eq_true] at hf
  have hat := isGr_at (by omega) hf.1 hi
  rw [List.getD_eq_getElem?_getD, List.getElem?_eq_getElem hi, hie] at hat
  simp at hat
  omega
 have hFe := hidI (hyes.out hf hmem)
 have hloop := fun (W : World) (hW : Below w2.heap.size w2 W) => loop_any W r.toNat vF S (f, l, t) ((hread.below hW).mono hW.size)
 have hgood' : GoodA s.toNat 0 S := hgood
 replace hmem := hidI hmem
 replace hf := hidI hf
 replace hgood := hidI hgood
 replace hread := hidI hread
 replace hS := hidI hS
 replace hlim := hidI hlim
 clear hb2 hloop
 go_upto_region 4 with (go_at_call 52; refine hcc.mono ?_; rintro e w3 ⟨rfl, hb3⟩)
 have hb13 := hidI (hb12.out.trans (hb3.mono hb12.out.size))
 replace e0_ := below_cell e0_ hb3 (by omega)
 replace e1_ := below_cell e1_ hb3 (by omega)
 replace e2_ := below_cell e2_ hb3 (by omega)
 have hloop := loop_any w3 s.toNat vF S (f, l, t) ((hread.out.below hb3).mono hb3.size) hgood' hSl hin
 rw [← hFe.out] at hloop
 clear hcc hb3 g0 g1 g2 hgood'
 go_wp2_with fail
 refine hloop.mono ?_
 rintro e w4 ⟨v4, rfl, hrow4, hb4⟩
 have hr := hidI (show IntsRet w F (.returned v4) w4 from ⟨v4, rfl, hrow4.wide hb13.out.size (Nat.le_refl _), hb13.out.trans (hb4.mono hb13.out.size)⟩)
 clear hloop hrow4 hb4
 go_wp2
 go_ret
 exact hr.out
end Go.Proofs.YtgnomlcjikfdhaaGreat
