import Derived.Test.YtpjlamnjiilgbaaGreatJ15Ba
namespace Go.Proofs.YtpjlamnjiilgbaaGreat
open Go.RowKit
set_option linter.unusedVariables false
set_option linter.unusedSimpArgs false
def LwSearch (w : World) (sN : Nat) (S : List Ar) (e : Ending) (w' : World) : Prop :=
 ∃ base G H c, e = .returned (.tuple #[.slice (some ⟨G, 0, none⟩) sN sN, .slice (some ⟨H, 0, none⟩) sN sN]) ∧ SearchSt w' base G H sN c S ∧ Below w.heap.size w w'
set_option maxRecDepth 100000 in
set_option maxHeartbeats 12800000 in
theorem specSearch (w : World) (rN sN uN : Nat) (v : Value) (es : List Ed) (h : ReadE w.heap.size w v es) (hl : es.length ≤ 10000000) (hfo : isFo (rN : Int) (sN : Int) es = true) (hu : uN < sN) :
 Calls Tryz.prog 149 #[.agg #[.int .i64 (rN : Int), .int .i64 (sN : Int), v], .int .i64 (uN : Int)] w (LwSearch w sN (foundA (rN : Int) es (uN : Int))) := by
 obtain ⟨a, cap, rfl, hnc⟩ := h.form
 have hfo' := hfo
 unfold isFo at hfo'
 rw [Bool.and_eq_true] at hfo'
 have hlim := isGr_lim hfo'.1
 have hs40 : sN ≤ 40 := by omega
 have hr3 : rN ≤ 3 := by omega
 obtain ⟨LS, hLS⟩ := exq (letsN rN)
 have hLl : LS.length = 2 * rN := by rw [hLS]; exact letsN_length rN
 have hLin : ∀ l ∈ LS, -3 ≤ l ∧ l ≤ 3 := fun l hl => by rw [hLS] at hl; have := letsN_in rN l hl; omega
 have hN := nx_lt hfo
 have hN' : ∀ v l : Int, -3 ≤ l ∧ l ≤ 3 → 0 ≤ nxV es v l → nxV es v l < (sN : Int) := fun v l h h0 => by have := hN v l h h0; omega
 have hgood : ∀ k, GoodA sN (uN : Int) (arrN es LS (uN : Int) k) := good_arrN (by omega) hLin hN'
 have hfound : foundA (rN : Int) es (uN : Int) = arrN es LS (uN : Int) 41 := by unfold foundA; rw [hLS]; rfl
 rw [hfound]
 obtain ⟨n, hn⟩ := exq es.length
 rw [← hn] at hl hnc ⊢
 rw [← hn] at h
 obtain ⟨w1, hw1⟩ := exq (w.alloc (.cells #[.int .i64 (rN : Int), .int .i64 (sN : Int), .slice a n cap] 26))
 have hb1 : Below w.heap.size w w1 := by rw [hw1]; exact (Below.refl _ _).alloc (Nat.le_refl _) _
 have hs1 : w1.heap.size = w.heap.size + 1 := by rw [hw1]; simp
 obtain ⟨g0, g1, g2⟩ := box3 hw1
 have c10 := hidI g0
 have c11 := hidI g1
 have c12 := hidI g2
 have hrd := hidI ((h.below hb1).mono hb1.size)
 obtain ⟨R, hR⟩ := exq (arrN es LS (uN : Int) 41)
 rw [← hR]
 obtain ⟨i0, hi0, hz0, hz1, hz2⟩ := info_parts infoBool
 obtain ⟨j0, hj0, hy0, hy1, hy2⟩ := info_parts infoInts
 replace hR := hidI hR
 replace hfo := hidI hfo
 replace hfo' := hidI hfo'
 replace hlim := hidI hlim
 replace hLS := hidI hLS
 replace hLl := hidI hLl
 replace hLin := hidI hLin
 replace hN := hidI hN
 replace hN' := hidI hN'
 replace hgood := hidI hgood
 replace hn := hidI hn
 replace h := hidI h
 replace hs1 := hidI hs1
 replace hb1 := hidI hb1
 clear hfound
 go_enter Tryz.func149, Tryz.ntmps149
 go_upto_region 1 with fail
 rw [← hw1]
 replace hw1 := hidI hw1
 have hu40 : (uN : Int) < (sN : Int) := by omega
 go_wp2_with (at_make; go_must (refine wpList_make_full _ rfl _ _ 153 rfl w1.heap.size 4 i0 (.bool false) 1 Tryz.underlying153 hi0 hz0 hz1 .i64 .i64 _ _ sN rfl rfl rfl rfl ?c1 ?c2 ?c3 ?_))
 case c1 => rw [hz2]; omega
 case c2 => unfold maxLen; omega
 case c3 => exact Nat.le_refl _
 intro wa howna hga
 obtain ⟨curG, hG1, hG2, hG3⟩ := fresh_row howna
 have hba : Below w1.heap.size w1 wa := (Below.refl _ _).grown hga (Nat.le_refl _) (fun k hk => by cases hk)
 have hlt1 : w.heap.size < w1.heap.size := by have := hs1.out; omega
 have hGa : w1.heap.size < wa.heap.size := (Array.getElem?_eq_some_iff.1 hG1).1
 replace g0 := below_cell g0 hba hlt1
 replace g1 := below_cell g1 hba hlt1
 replace g2 := below_cell g2 hba hlt1
 clear howna hga
 replace hG1 := hidI hG1
 replace hG3 := hidI hG3
 go_wp2_with (at_make; go_must (refine wpList_make_full _ rfl _ _ 32 rfl wa.heap.size 46 j0 (.slice none 0 0) 1 Tryz.underlying32 hj0 hy0 hy1 .i64 .i64 _ _ sN rfl rfl rfl rfl ?c4 ?c5 ?c6 ?_))
 case c4 => rw [hy2]; omega
 case c5 => unfold maxLen; omega
 case c6 => exact Nat.le_refl _
 intro wb hownb hgb
 obtain ⟨curH, hH1, hH2, hH3⟩ := fresh_row hownb
 have hbb : Below wa.heap.size wa wb := (Below.refl _ _).grown hgb (Nat.le_refl _) (fun k hk => by cases hk)
 have hHb : wa.heap.size < wb.heap.size := (Array.getElem?_eq_some_iff.1 hH1).1
 have hlta : w.heap.size < wa.heap.size := Nat.lt_trans hlt1 hGa
 replace g0 := below_cell g0 hbb hlta
 replace g1 := below_cell g1 hbb hlta
 replace g2 := below_cell g2 hbb hlta
 have hGw : wb.heap[w1.heap.size]? = some (.cells curG 4 (0, 0)) := (hbb.block _ hGa).trans hG1.out
 clear hownb hgb
 have cU : wb.cell? ⟨w1.heap.size, uN, none⟩ = some (.bool false) := by rw [cell_of_heap hGw]; exact hG3.out uN hu
 have fU := fun j => frozen_of_row wb w1.heap.size j _ _ hGw
 obtain ⟨w3, hw3⟩ := exq (wb.setCell ⟨w1.heap.size, uN, none⟩ (.bool true))
 have hs3 : w3.heap.size = wb.heap.size := by rw [hw3]; exact setCell_size _ _ _
 have hoth3 : ∀ b, b ≠ w1.heap.size → w3.heap[b]? = wb.heap[b]? := fun b hb => by rw [hw3]; exact heap_setCell_other _ _ _ _ hb
 have hseen3 : BoolsN w3 w1.heap.size sN [(uN : Int)] := by
  rw [hw3]
  have h0 : BoolsN wb w1.heap.size sN [] := ⟨curG, hGw, hG2, fun u hu => by rw [hG3.out u hu]; rfl⟩
  exact h0.set uN hu (fun u hu => cons_set)
 replace hGw := hidI hGw
 replace hH1 := hidI hH1
 replace hH3 := hidI hH3
 go_upto_region 4 with fail
 rw [← hw3]
 replace hw3 := hidI hw3
 clear cU fU
 obtain ⟨w4, hw4⟩ := exq (w3.alloc (.cells #[] 3))
 have hHw4 : w4.heap[wa.heap.size]? = some (.cells curH 46 (0, 0)) := by
  rw [hw4, heap_alloc_old _ _ (by omega), hoth3 _ (by omega)]; exact hH1.out
 have cH4 : w4.cell? ⟨wa.heap.size, uN, none⟩ = some (.slice none 0 0) := by rw [cell_of_heap hHw4]; exact hH3.out uN hu
 have fH4 := fun j => frozen_of_row w4 wa.heap.size j _ _ hHw4
 obtain ⟨w5, hw5⟩ := exq (w4.setCell ⟨wa.heap.size, uN, none⟩ (.slice (some ⟨w3.heap.size, 0, none⟩) 0 0))
 have hs5 : w5.heap.size = w3.heap.size + 1 := by rw [hw5, setCell_size, hw4]; simp
 have hoth5 : ∀ b, b < w3.heap.size → b ≠ wa.heap.size → w5.heap[b]? = w3.heap[b]? := fun b h1 h2 => by
  rw [hw5, heap_setCell_other _ _ _ _ h2, hw4, heap_alloc_old _ _ h1]
 obtain ⟨w6, hw6⟩ := exq (w5.alloc (.cells #[.int .i64 (uN : Int)] 3))
 have hs6 : w6.heap.size = w5.heap.size + 1 := by rw [hw6]; simp
 have hoth6 : ∀ b, b < w5.heap.size → w6.heap[b]? = w5.heap[b]? := fun b h1 => by rw [hw6, heap_alloc_old _ _ h1]
 have hst6 : SearchSt w6 w1.heap.size w1.heap.size wa.heap.size sN (.slice (some ⟨w5.heap.size, 0, none⟩) 1 1) (arrN es LS (uN : Int) 0) := by
  refine ⟨?_, ?_, ?_, ?_, ?_, by omega, by omega⟩
  · exact hseen3.keep (by rw [hoth6 _ (by omega), hoth5 _ (by omega) (by omega)])
  · refine ⟨curH.setIfInBounds uN (.slice (some ⟨w3.heap.size, 0, none⟩) 0 0), ?_, by simpa using hH2, fun j hj => ?_⟩
    · rw [hoth6 _ (by omega), hw5]; exact heap_setCell_same w4 wa.heap.size uN curH _ _ hHw4
    · have hj0 : j = 0 := by simpa [arrN] using hj
      subst hj0
      refine ⟨.slice (some ⟨w3.heap.size, 0, none⟩) 0 0, ?_, ⟨by simp [arrN], _, _, rfl, ⟨(fun e => by cases e), Nat.le_refl _⟩, .inl rfl⟩, fun b hb => ?_⟩
      · show (curH.setIfInBounds uN _)[((uN : Int)).toNat]? = _
        rw [Int.toNat_natCast, Array.getElem?_setIfInBounds_self_of_lt (by omega)]
      · have h2 : w3.heap.size = b := (by simpa [Value.ownBlock] using hb)
        refine ⟨by omega, by omega, by omega, ?_⟩
        simp [Value.ownBlock]; omega
  · refine ⟨rfl, .inr ⟨w5.heap.size, 1, #[.int .i64 (uN : Int)], rfl, by omega, by rw [hw6]; exact heap_alloc_new _ _, Nat.le_refl _, by unfold maxLen; omega, rfl, rfl⟩⟩
  · simp [Value.ownBlock]; omega
  · simp [Value.ownBlock]; omega
 have hb6 : Below w1.heap.size w1 w6 := by
  have z : Below w1.heap.size w1 wb := hba.trans (hbb.mono (by omega))
  have z3 : Below w1.heap.size w1 w3 := by rw [hw3.out]; exact z.setCell (p := ⟨w1.heap.size, uN, none⟩) (Nat.le_refl _) _
  have z4 : Below w1.heap.size w1 w4 := by rw [hw4]; exact z3.alloc z3.size _
  have z5 : Below w1.heap.size w1 w5 := by rw [hw5]; exact z4.setCell (p := ⟨wa.heap.size, uN, none⟩) (by show w1.heap.size ≤ wa.heap.size; omega) _
  rw [hw6]; exact z5.alloc z5.size _
 replace g0 : w6.cell? ⟨w.heap.size, 0, none⟩ = _ := (World.cell?_of_block (w := wb) (by show w6.heap[w.heap.size]? = _; rw [hoth6 _ (by omega), hoth5 _ (by omega) (by omega), hoth3 _ (by omega)])).trans g0
 replace g1 : w6.cell? ⟨w.heap.size, 1, none⟩ = _ := (World.cell?_of_block (w := wb) (by show w6.heap[w.heap.size]? = _; rw [hoth6 _ (by omega), hoth5 _ (by omega) (by omega), hoth3 _ (by omega)])).trans g1
 replace g2 : w6.cell? ⟨w.heap.size, 2, none⟩ = _ := (World.cell?_of_block (w := wb) (by show w6.heap[w.heap.size]? = _; rw [hoth6 _ (by omega), hoth5 _ (by omega) (by omega), hoth3 _ (by omega)])).trans g2
 rw [hw4] at cH4 fH4
 have hww5 : (w3.alloc (.cells #[] 3)).setCell ⟨wa.heap.size, uN, none⟩ (.slice (some ⟨w3.heap.size, 0, none⟩) 0 0) = w5 := by rw [hw5, hw4]
 have hlo : w1.heap.size < w6.heap.size ∧ wa.heap.size < w6.heap.size ∧ w5.heap.size < w6.heap.size ∧ w1.heap.size < wa.heap.size := by omega
 have hcl := specLets w6 rN hr3
 rw [← hLS.out] at hcl
 replace hst6 := hidI hst6
 replace hb6 := hidI hb6
 replace hlo := hidI hlo
 replace hw4 := hidI hw4
 replace hw5 := hidI hw5
 replace hHw4 := hidI hHw4
 replace hs5 := hidI hs5
 replace hs3 := hidI hs3
 replace hs6 := hidI hs6
 replace hoth3 := hidI hoth3
 replace hoth5 := hidI hoth5
 replace hoth6 := hidI hoth6
 replace hww5 := hidI hww5
 go_upto_region 5 with fail
 rw [hww5.out]
 clear cH4 fH4
 go_upto_region 6 with fail
 rw [← hw6]
 replace hw6 := hidI hw6
 obtain ⟨M, hM⟩ := exq LS.length
 go_wp2_with fail
 refine hcl.mono ?_
 rintro e wl ⟨vl, rfl, hrowl, hbl⟩
 clear hcl
 have hM6 : M ≤ 6 := by rw [hM, hLl.out]; omega
 obtain ⟨al, cl, rfl⟩ : ∃ a c, vl = Value.slice a M c := by
  obtain ⟨_, ⟨h1, h2⟩ | ⟨g, off, cap, cur, h1, _⟩⟩ := hrowl
  · exact ⟨_, _, by rw [h1, hM, h2]; rfl⟩
  · exact ⟨_, _, by rw [hM]; exact h1⟩
 have hblk0 : ∀ b, Value.ownBlock (.slice (some ⟨w5.heap.size, 0, none⟩) 1 1) = some b → b < w6.heap.size ∨ wl.heap.size ≤ b := fun b hb => by
  have h2 : w5.heap.size = b := (by simpa [Value.ownBlock] using hb)
  have := hlo.out; omega
 have hF0 := hidI (And.intro (hst6.out.below hbl) hblk0)
 have hkeep0 : Hid (KeepL w6.heap.size wl.heap.size wl wl) := hidI (fun j _ _ => rfl)
 have hbw0 := hidI (hb6.out.trans (hbl.mono hb6.out.size))
 have hl6 : w.heap.size < w6.heap.size := by have := hlo.out; omega
 have p0 := below_cell g0 hbl hl6
 have p1 := below_cell g1 hbl hl6
 have p2 := below_cell g2 hbl hl6
 have hwl1 : w1.heap.size ≤ wl.heap.size := by have := hbl.size; have := hlo.out; omega
 obtain ⟨lo, hlo_⟩ := exq w6.heap.size
 obtain ⟨hi, hhi_⟩ := exq wl.heap.size
 have hlohi : lo ≤ hi := by rw [hlo_, hhi_]; exact hbl.size
 rw [← hlo_] at hF0 hkeep0 hlo hrowl
 rw [← hhi_] at hF0 hkeep0 hrowl
 have hsw0 := hidI (show hi ≤ wl.heap.size by rw [hhi_]; exact Nat.le_refl _)
 replace hlo_ := hidI hlo_
 replace hhi_ := hidI hhi_
 replace hM := hidI hM
 replace hrowl := hidI hrowl
 replace hlohi := hidI hlohi
 clear g0 g1 g2 hblk0 hbl hw6 hs6 hoth6 hoth5 hoth3
 go_wp2
 go_loopg [8, 10, 11, 12] 41 (fun g o i q1 q2 wr => ∃ k : Nat, k + g = 41 ∧ i = .int .i64 k ∧ Hid (SearchSt wr w1.heap.size w1.heap.size wa.heap.size sN o (arrN es LS (uN : Int) k) ∧ (∀ b, o.ownBlock = some b → b < lo ∨ hi ≤ b)) ∧ Hid (KeepL lo hi wl wr) ∧ Hid (Below w1.heap.size w1 wr) ∧ Hid (hi ≤ wr.heap.size))
 case atStart => exact ⟨0, by omega, rfl, hF0, hkeep0, hbw0, hsw0⟩
 case round =>
  clear hF0 hkeep0 hbw0 hsw0
  obtain ⟨k, hk, rfl, hF, hkeep, hb, hsw⟩ := hrel
  obtain ⟨S0, hS0⟩ := exq (arrN es LS (uN : Int) k)
  have hgk := hgood.out k
  rw [← hS0] at hF hgk
  have hlen := hgk.length
  have hpos := hgk.pos
  obtain ⟨g, cp, ho, hg1, hg2, hc⟩ := OwnsI.form0 hF.out.1.queue (by unfold vts; rw [List.length_map]; exact hpos)
  rw [show (vts S0).length = S0.length by unfold vts; rw [List.length_map]] at ho hc
  subst ho
  obtain ⟨m, hm0⟩ := exq S0.length
  rw [← hm0] at hF hlen hpos hc ⊢
  by_cases hlt : k < m
  · have hki : (k : Int) < (m : Int) := by omega
    have hnext : arrN es LS (uN : Int) (k + 1) = LS.foldl (arr1 es k) S0 := by rw [arrN, ← hS0, if_pos (by rw [← hm0]; exact hlt)]
    have hF1 := hidI (show SearchSt wr w1.heap.size w1.heap.size wa.heap.size sN (.slice (some ⟨g, 0, none⟩) m cp) ((LS.take 0).foldl (arr1 es k) S0) ∧ (∀ b, Value.ownBlock (.slice (some ⟨g, 0, none⟩) m cp) = some b → b < lo ∨ hi ≤ b) from hF.out)
    replace hS0 := hidI hS0
    replace hm0 := hidI hm0
    replace hnext := hidI hnext
    replace hk := hidI hk
    replace hgk := hidI hgk
    clear hF
    go_wp2
    go_loopg [8, 11, 12] M (fun g o i q2 wr => ∃ j : Nat, j + g = M ∧ i = .int .i64 j ∧ Hid (SearchSt wr w1.heap.size w1.heap.size wa.heap.size sN o ((LS.take j).foldl (arr1 es k) S0) ∧ (∀ b, o.ownBlock = some b → b < lo ∨ hi ≤ b)) ∧ Hid (KeepL lo hi wl wr) ∧ Hid (Below w1.heap.size w1 wr) ∧ Hid (hi ≤ wr.heap.size))
    case atStart => exact ⟨0, by omega, rfl, hF1, hkeep, hb, hsw⟩
    case round =>
     clear hF1 hkeep hb hsw hg2
     obtain ⟨j, hj, rfl, hF, hkeep, hb, hsw⟩ := hrel
     by_cases hlt2 : j < M
     · have hji : (j : Int) < (M : Int) := by omega
       obtain ⟨S, hS⟩ := exq ((LS.take j).foldl (arr1 es k) S0)
       have hgS : GoodA sN (uN : Int) S := by
        rw [hS]
        exact good_foldl _ hgk.out (by have := hm0.out; omega) (fun l hl => hLin.out l (List.mem_of_mem_take hl)) hN'.out
       have hkS : m ≤ S.length := by
        rw [hS]
        have hh : ∀ (ls : List Int) (S' : List Ar), S'.length ≤ (ls.foldl (arr1 es k) S').length := by
         intro ls
         induction ls with
         | nil => intro S'; exact Nat.le_refl _
         | cons l ls ih => intro S'; exact Nat.le_trans (arr1_le es k S' l) (ih _)
        have := hh (LS.take j) S0
        have := hm0.out
        omega
       rw [← hS] at hF
       have hSl := hgS.length
       obtain ⟨g', cap', ho', hg1', hg2', hc'⟩ := OwnsI.form0 hF.out.1.queue (by unfold vts; rw [List.length_map]; exact hgS.pos)
       rw [show (vts S).length = S.length by unfold vts; rw [List.length_map]] at ho' hc'
       subst ho'
       obtain ⟨p, hp0⟩ := exq S.length
       have hqrow := (OwnsI.row hF.out.1.queue (by unfold vts; rw [List.length_map]; omega)).read
       have hvtl : (vts S).length = p := by unfold vts; rw [List.length_map]; exact hp0.symm
       rw [← hp0] at hF hqrow hc' hSl hkS ⊢
       obtain ⟨b', off', hab', hB', cq⟩ := hqrow.at2 k (by omega)
       simp only [Option.some.injEq, Addr.mk.injEq, and_true] at hab'
       obtain ⟨rfl, rfl⟩ := hab'
       rw [show (vts S).getD k 0 = (S.getD k d0).1.1 by unfold vts; rw [List.getD_eq_getElem?_getD, List.getElem?_map, List.getD_eq_getElem?_getD]; cases S[k]? <;> rfl] at cq
       simp only [Nat.zero_add] at cq
       have hxb := hgS.vert k (by omega)
       obtain ⟨xN, hx⟩ : ∃ x : Nat, (S.getD k d0).1.1 = (x : Int) := ⟨(S.getD k d0).1.1.toNat, by omega⟩
       rw [hx] at cq hxb
       have hxi : (xN : Int) < (sN : Int) := hxb.2
       have hrl := (hrowl.out.keep hkeep.out).read
       obtain ⟨bl, ol, rfl, hbll, cl0⟩ := hrl.at2 j (by have := hM.out; omega)
       have hblx : lo ≤ bl := by
        obtain ⟨_, ⟨h1, _⟩ | ⟨g9, off9, cap9, cur9, h1, h2, h3, _⟩⟩ := hrowl.out
        · cases h1
        · simp only [Value.slice.injEq, Option.some.injEq, Addr.mk.injEq, and_true] at h1
          omega
       obtain ⟨l, hl9⟩ := exq (LS.getD j 0)
       have hlin : -3 ≤ l ∧ l ≤ 3 := hLin.out l (by
        have hjl : j < LS.length := by have := hM.out; omega
        rw [hl9, List.getD_eq_getElem?_getD, List.getElem?_eq_getElem hjl]
        exact List.getElem_mem hjl)
       rw [← hl9] at cl0
       have hSn : (LS.take (j + 1)).foldl (arr1 es k) S0 = arr1 es k S l := by
        have hjl : j < LS.length := by have := hM.out; omega
        rw [List.take_add_one, List.getElem?_eq_getElem hjl, Option.toList_some, List.foldl_append, ← hS, hl9, List.getD_eq_getElem?_getD, List.getElem?_eq_getElem hjl]
        rfl
       have q0 := below_cell p0 (show Below wl.heap.size wl wl from Below.refl _ _) (by have := hlo.out; have := hlohi.out; have := hhi_.out; omega)
       have r0 := (hb.out.cell (p := ⟨w.heap.size, 0, none⟩) (by show w.heap.size < w1.heap.size; omega))
       have gb : ∀ j, wr.cell? ⟨w.heap.size, j, none⟩ = w1.cell? ⟨w.heap.size, j, none⟩ := fun j => hb.out.cell (p := ⟨w.heap.size, j, none⟩) (by show w.heap.size < w1.heap.size; omega)
       have G0 := (gb 0).trans c10.out
       have G1 := (gb 1).trans c11.out
       have G2 := (gb 2).trans c12.out
       clear q0 r0 gb
       obtain ⟨we, hwe⟩ := exq wr.drew
       have hdr : Below wr.heap.size wr we := by rw [hwe]; exact below_dn (Below.refl wr.heap.size wr) 1
       have hlw : w.heap.size < wr.heap.size := Nat.lt_of_lt_of_le hlt1 hb.out.size
       have hblr : bl < wr.heap.size := by have := hsw.out; omega
       have e0 := below_cell G0 hdr hlw
       have e1 := below_cell G1 hdr hlw
       have e2 := below_cell G2 hdr hlw
       have e3 := below_cell cq hdr hg2'
       have e4 := below_cell cl0 hdr hblr
       have hde := hdr.size
       have hcall := specNext we (rN : Int) (sN : Int) (.slice a n cap) es (xN : Int) l ((hrd.out.below (hb.out.trans (hdr.mono hb.out.size))).mono (Nat.le_trans hb.out.size hdr.size)) (by have := hn.out; omega)
       obtain ⟨y, hy⟩ := exq (nxV es (xN : Int) l)
       rw [← hy] at hcall
       have hyb : 0 ≤ y → y < (sN : Int) := fun h0 => by rw [hy] at h0 ⊢; exact hN'.out _ _ hlin h0
       rw [← hx] at hy
       replace hy := hidI hy
       replace hyb := hidI hyb
       replace hS := hidI hS
       replace hgS := hidI hgS
       replace hp0 := hidI hp0
       replace hx := hidI hx
       replace hl9 := hidI hl9
       replace hj := hidI hj
       replace hqrow := hidI hqrow
       replace hrl := hidI hrl
       replace hvtl := hidI hvtl
       have hkp : k < p := by omega
       have hkpi : (k : Int) < (p : Int) := by omega
       replace hdr := hidI hdr
       replace hwe := hidI hwe
       go_wp2
       refine hideQ (fun _ _ d _ _ h => by cases d <;> exact h) (fun Q' hnorm hpan => ?_)
       refine wp_region_held_drew (S := (fun z => z.cell? ⟨w.heap.size, 0, none⟩ = some (.int .i64 (rN : Int)) ∧ z.cell? ⟨w.heap.size, 1, none⟩ = some (.int .i64 (sN : Int)) ∧ z.cell? ⟨w.heap.size, 2, none⟩ = some (.slice a n cap) ∧ z.cell? ⟨g', k, none⟩ = some (.int .i64 (xN : Int)) ∧ z.cell? ⟨bl, ol + j, none⟩ = some (.int .i64 l))) (by kernel_rfl) ?_ (fun hHeld => ?_)
       · try dsimp only
         rw [← hwe.out]
         ((repeat' apply And.intro) <;> assumption)
       rw [← hwe.out] at hHeld ⊢
       refine tk 0 43 ?_
       refine tk 1 44 ?_
       refine tk 2 45 ?_
       refine tk 3 46 ?_
       refine tk 4 47 ?_
       refine tk 5 48 ?_
       refine tk 6 49 ?_
       refine tk 7 50 ?_
       refine tk 8 51 ?_
       refine rd 9 (fun K hK => ?_)
       rw [if_pos (by rfl)]
       go_simp
       go_at_call 43
       (with_reducible refine hcall.mono ?_)
       rintro e w3 ⟨rfl, hb3⟩
       have f0 := below_cell e0 hb3 (by omega)
       have f1 := below_cell e1 hb3 (by omega)
       have f2 := below_cell e2 hb3 (by omega)
       have f3 := below_cell e3 hb3 (by omega)
       have f4 := below_cell e4 hb3 (by omega)
       refine hK.out _ _ ?_ (fun hHeld => ?_)
       · try dsimp only
         ((repeat' apply And.intro) <;> assumption)
       clear hK
       try simp only [Act.put, lyA, lyB, lyC]
       refine tk 10 12 ?_
       refine wpAnyH_done (by kernel_rfl) ?_ _
       refine hnorm _ _ ?_
       clear hnorm hpan
       repeat clear hHeld
       try simp only [Exit.then]
       have hb3' := hidI (hdr.out.trans (hb3.mono hdr.out.size))
       clear hcall hb3 hdr G0 G1 G2 e0 e1 e2 e3 e4 f0 f1 f2 f3 f4
       have hst := hF.out.1.below hb3'.out
       have hkeep3 : KeepL lo hi wl w3 := fun q h1 h2 => by rw [hb3'.out.block q (by have := hsw.out; omega)]; exact hkeep.out q h1 h2
       have hb13 := hb.out.trans (hb3'.out.mono hb.out.size)
       have hsw3 : hi ≤ w3.heap.size := Nat.le_trans hsw.out hb3'.out.size
       have hblk := hidI hF.out.2
       by_cases h0 : 0 ≤ y
       · obtain ⟨yN, rfl⟩ : ∃ z : Nat, y = (z : Int) := ⟨y.toNat, by omega⟩
         have hyi := hyb.out h0
         have hyN : yN < sN := by omega
         have cY := hst.seen.cell yN hyN
         have hge : (yN : Int) ≥ 0 := h0
         by_cases hin : (yN : Int) ∈ vts S
         · have d1 : decide ((yN : Int) ∈ vts S) = true := decide_eq_true hin
           rw [d1] at cY
           have hno := arr1_no hy.out (.inr hin)
           have hF' := hidI (show SearchSt w3 w1.heap.size w1.heap.size wa.heap.size sN (.slice (some ⟨g', 0, none⟩) p cap') ((LS.take (j + 1)).foldl (arr1 es k) S0) ∧ (∀ b, Value.ownBlock (.slice (some ⟨g', 0, none⟩) p cap') = some b → b < lo ∨ hi ≤ b) from by rw [hSn, hno]; exact ⟨hst, hF.out.2⟩)
           replace hkeep3 := hidI hkeep3
           replace hb13 := hidI hb13
           replace hsw3 := hidI hsw3
           replace hst := hidI hst
           replace hSn := hidI hSn
           replace hno := hidI hno
           replace hin := hidI hin
           clear cq cl0
           go_wp2
           go_roundg (M - (j + 1))
           case rel => exact ⟨j + 1, by have := hj.out; omega, by go_num, hF', hkeep3, hb13, hsw3⟩
           case measure => have := hj.out; omega
         · have d1 : decide ((yN : Int) ∈ vts S) = false := decide_eq_false hin
           rw [d1] at cY
           have hyn := hin
           have hyes := arr1_yes hy.out h0 hin
           have fY := fun q => hst.seen.frozen q
           obtain ⟨w7, hw7⟩ := exq (w3.setCell ⟨w1.heap.size, yN, none⟩ (.bool true))
           have hs37 : w7.heap.size = w3.heap.size := by rw [hw7]; exact setCell_size _ _ _
           have hoth7 : ∀ b, b ≠ w1.heap.size → w7.heap[b]? = w3.heap[b]? := fun b hb => by rw [hw7]; exact heap_setCell_other _ _ _ _ hb
           obtain ⟨wd, hwd⟩ := exq w7.drew
           have hdh : wd.heap = w7.heap := by rw [hwd]; rfl
           have hdd := below_dn (Below.refl w7.heap.size w7) 1
           have hsd : wd.heap.size = w7.heap.size := by rw [hdh]
           obtain ⟨WD, hWD⟩ := exq ((S.getD k d0).2)
           have hWDl : WD.length ≤ 40 := by rw [hWD]; have := hgS.out.wlen k (by have := hp0.out; omega); omega
           rw [← hWD] at hyes
           obtain ⟨vw, cw0, hrw⟩ := hst.words.cell k (by have := hp0.out; omega)
           rw [hx.out, Int.toNat_natCast] at cw0
           rw [← hWD] at hrw
           have hwblk : ∀ b, vw.ownBlock = some b → b < w3.heap.size ∧ b ≠ w1.heap.size := by
            obtain ⟨cur, q1, q2, q3⟩ := hst.words
            obtain ⟨v9, z1, z2, z3⟩ := q3 k (by have := hp0.out; omega)
            rw [hx.out, Int.toNat_natCast] at z1
            rw [cell_of_heap q1, z1] at cw0
            cases cw0
            exact fun b hb => ⟨(z3 b hb).1, (z3 b hb).2.1⟩
           obtain ⟨_, aw, cw, rfl, _, _⟩ := id hrw
           obtain ⟨lw, hlw⟩ := exq WD.length
           rw [← hlw] at cw0 hrw hwblk
           have hrW : ReadI wd.heap.size wd (.slice aw lw cw) WD := by
            refine ReadI.other (w := w3) (by rw [hlw]; rw [← hlw]; exact hrw) (by omega) (fun b hb => ?_)
            rw [hdh]; exact hoth7 b (hwblk b hb).2
           have hne1 := hst.qG
           have hneH := hst.qH
           have hgl' : g' < w3.heap.size := Nat.lt_of_lt_of_le hg2' hb3'.out.size
           have hbl3 : bl < w3.heap.size := by have := hb3'.out.size; omega
           have hg'1 : g' ≠ w1.heap.size := fun e => hne1 (by rw [← e]; rfl)
           have hg'H : g' ≠ wa.heap.size := fun e => hneH (by rw [← e]; rfl)
           have hHlt3 := hst.Hlt
           have hbl1 : bl ≠ w1.heap.size := by have := hlo.out; omega
           have hblH : bl ≠ wa.heap.size := by have := hlo.out; omega
           have hHne : wa.heap.size ≠ w1.heap.size := Ne.symm hst.GH
           have cq3 := below_cell cq hb3'.out (by omega)
           have cl3 := below_cell cl0 hb3'.out (by have := hsw.out; omega)
           have k0 : wd.cell? ⟨g', k, none⟩ = some (.int .i64 (xN : Int)) := (World.cell?_of_block (w := w3) (by show wd.heap[g']? = _; rw [hdh]; exact hoth7 g' hg'1)).trans cq3
           have k1 : wd.cell? ⟨wa.heap.size, xN, none⟩ = some (.slice aw lw cw) := (World.cell?_of_block (w := w3) (by show wd.heap[wa.heap.size]? = _; rw [hdh]; exact hoth7 _ hHne)).trans cw0
           have k2 : wd.cell? ⟨bl, ol + j, none⟩ = some (.int .i64 l) := (World.cell?_of_block (w := w3) (by show wd.heap[bl]? = _; rw [hdh]; exact hoth7 bl hbl1)).trans cl3
           have hlk0 : g' < wd.heap.size := by omega
           have hlk1 : wa.heap.size < wd.heap.size := by omega
           have hlk2 : bl < wd.heap.size := by omega
           have hxy : xN ≠ yN := fun e => hyn (by rw [← e, ← hx.out]; exact mem_vts.2 ⟨k, by have := hp0.out; omega, rfl⟩)
           have hbwd : Below wd.heap.size wd wd := Below.refl _ _
           have hb1wd : Below w1.heap.size w1 wd := by
            have z1 : Below w1.heap.size w1 w7 := by rw [hw7]; exact hb13.setCell (p := ⟨w1.heap.size, yN, none⟩) (Nat.le_refl _) _
            rw [hwd]; exact z1.trans (hdd.mono z1.size)
           have hdo : wd.os = w7.os := by rw [hwd]; exact hdd.os
           have hdt : wd.tape = w7.tape := by rw [hwd]; exact hdd.tape
           have hdp : wd.output = w7.output := by rw [hwd]; exact hdd.output
           have hH7 := hoth7 wa.heap.size hHne
           have hgw1 : w1.heap.size ≤ g' := by have := hlo.out; have := World.ownsRow.lt hst.queue g' rfl; omega
           have hswr := hidI hsw3
           have hsd3 : wd.heap.size = w3.heap.size := by omega
           have hwk : WordsAt wd w1.heap.size wa.heap.size sN (Value.ownBlock (.slice (some ⟨g', 0, none⟩) p cap')) S := hst.words.keep (by omega) (by rw [hdh]; exact hoth7 _ hHne) (fun b q1 q2 q3 q4 => ⟨by rw [hdh]; exact hoth7 b q2, q4⟩)
           have hsw1 := hidI (show w1.heap.size ≤ w3.heap.size from hb13.size)
           replace hkeep3 := hidI hkeep3
           replace hb13 := hidI hb13
           replace hw7 := hidI hw7
           replace hs37 := hidI hs37
           replace hoth7 := hidI hoth7
           replace hwd := hidI hwd
           replace hdh := hidI hdh
           replace hsd := hidI hsd
           replace hWD := hidI hWD
           replace hrW := hidI hrW
           replace hsd3 := hidI hsd3
           replace hwk := hidI hwk
           replace hdo := hidI hdo
           replace hdt := hidI hdt
           replace hdp := hidI hdp
           replace hH7 := hidI hH7
           replace hgw1 := hidI hgw1
           replace hb1wd := hidI hb1wd
           replace hSn := hidI hSn
           replace hyes := hidI hyes
           replace hin := hidI hin
           replace hrw := hidI hrw
           replace hwblk := hidI hwblk
           replace hlw := hidI hlw
           clear hdd hne1 hneH hsw3
           go_upto_region 16 with fail
           rw [← hw7.out]
           clear cY fY cq cl0 cq3 cl3 cw0
           refine hideQ (fun _ _ d _ _ h => by cases d <;> exact h) (fun Q' hnorm hpan => ?_)
           refine wp_region_held_drew (S := (fun z => z.cell? ⟨g', k, none⟩ = some (.int .i64 (xN : Int)) ∧ z.cell? ⟨wa.heap.size, xN, none⟩ = some (.slice aw lw cw) ∧ z.cell? ⟨bl, ol + j, none⟩ = some (.int .i64 l))) (by kernel_rfl) ?_ (fun hHeld => ?_)
           · try dsimp only
             rw [← hwd.out]
             ((repeat' apply And.intro) <;> assumption)
           rw [← hwd.out] at hHeld ⊢
           refine tk 0 65 ?_
           refine tk 1 66 ?_
           refine tk 3 68 ?_
           refine tk 4 69 ?_
           refine tk 5 70 ?_
           refine tk 6 71 ?_
           refine tk 7 72 ?_
           refine tk 8 73 ?_
           refine tk 9 74 ?_
           refine tk 11 76 ?_
           refine tk 12 77 ?_
           refine tk 13 78 ?_
           refine tk 14 79 ?_
           refine wpAnyH_ready (rs := [2, 15]) (by kernel_rfl) (by simp) ?_
           refine AllReadyH.cons rfl (fun K hK => ?_) ?_
           ·
            rw [if_pos (by rfl)]
            go_simp
            obtain ⟨v2x0, hv2x0⟩ := exq (wd.alloc (.cells #[] 3))
            have hbv2x0 : Below wd.heap.size wd v2x0 := by rw [hv2x0]; exact hbwd.alloc hbwd.size _
            have hsv2x0 := hidI (show v2x0.heap.size = wd.heap.size + 1 by rw [hv2x0]; simp)
            have hown67 := hidI (show OwnsI v2x0 wd.heap.size (.slice (some ⟨wd.heap.size, 0, none⟩) 0 0) [] by rw [hv2x0]; exact (OwnsI.lit wd).mono hbwd.size)
            rw [← hv2x0]
            replace hv2x0 := hidI hv2x0
            have k0v2x0 := below_cell k0 hbv2x0 hlk0
            have k1v2x0 := below_cell k1 hbv2x0 hlk1
            have k2v2x0 := below_cell k2 hbv2x0 hlk2
            refine hK.out _ _ ?_ (fun hHeld => ?_)
            · try dsimp only
              ((repeat' apply And.intro) <;> assumption)
            clear hK
            try simp only [Act.put, lyA, lyB, lyC]
            refine wpAnyH_ready (rs := [10, 15]) (by kernel_rfl) (by simp) ?_
            refine AllReadyH.cons rfl (fun K hK => ?_) ?_
            ·
             rw [if_pos (by rfl)]
             refine step_pushAllI_at _ _ rfl wd.heap.size _ _ [] WD wd.heap.size rfl rfl hown67.out (hrW.out.below hbv2x0) (by simp; omega) hbv2x0.size ?_
             intro v75 v10x1 hown75 hg75 hl75
             replace hg75 : World.grownBy v2x0 v10x1 (Value.ownBlock (.slice (some ⟨wd.heap.size, 0, none⟩) 0 0)) := hg75
             rw [List.nil_append] at hown75
             obtain ⟨a75, m75, c75, rfl⟩ : ∃ a m c, v75 = Value.slice a m c := by
              obtain ⟨_, ⟨h1, _⟩ | ⟨g, cap, cur, h1, _⟩⟩ := hown75 <;> exact ⟨_, _, _, h1⟩
             have hbv10x1 : Below wd.heap.size wd v10x1 := hbv2x0.grown hg75 hbv2x0.size (fun q hq => by have h2 : wd.heap.size = q := (by simpa [Value.ownBlock] using hq); have := hbwd.size; omega)
             have hsv10x1 := hidI hg75.size
             replace hown75 := hidI hown75
             clear hg75 hl75
             have k0v10x1 := below_cell k0 hbv10x1 hlk0
             have k1v10x1 := below_cell k1 hbv10x1 hlk1
             have k2v10x1 := below_cell k2 hbv10x1 hlk2
             refine hK.out _ _ ?_ (fun hHeld => ?_)
             · try dsimp only
               ((repeat' apply And.intro) <;> assumption)
             clear hK
             try simp only [Act.put, lyA, lyB, lyC]
             refine rd 15 (fun K hK => ?_)
             rw [if_pos (by rfl)]
             go_simp
             obtain ⟨v15x2, hv15x2⟩ := exq (v10x1.alloc (.cells #[.int .i64 l] 3))
             have hbv15x2 : Below wd.heap.size wd v15x2 := by rw [hv15x2]; exact hbv10x1.alloc hbv10x1.size _
             have hsv15x2 := hidI (show v15x2.heap.size = v10x1.heap.size + 1 by rw [hv15x2]; simp)
             have h80 := hidI (show v15x2.heap[v10x1.heap.size]? = some (.cells #[.int .i64 l] 3 (0, 0)) by rw [hv15x2]; exact heap_alloc_new _ _)
             replace hown75 := hidI (show OwnsI v15x2 wd.heap.size (.slice a75 m75 c75) WD by rw [hv15x2]; exact World.ownsRow.alloc hown75.out _)
             rw [← hv15x2]
             replace hv15x2 := hidI hv15x2
             have k0v15x2 := below_cell k0 hbv15x2 hlk0
             have k1v15x2 := below_cell k1 hbv15x2 hlk1
             have k2v15x2 := below_cell k2 hbv15x2 hlk2
             refine hK.out _ _ ?_ (fun hHeld => ?_)
             · try dsimp only
               ((repeat' apply And.intro) <;> assumption)
             clear hK
             try simp only [Act.put, lyA, lyB, lyC]
             refine rd 16 (fun K hK => ?_)
             rw [if_pos (by rfl)]
             have hr80 : ReadI v15x2.heap.size v15x2 (.slice (some ⟨v10x1.heap.size, 0, none⟩) 1 1) [l] := ⟨by simp, _, _, rfl, ⟨(fun e => by cases e), Nat.le_refl _⟩, .inr ⟨_, 0, rfl, (Array.getElem?_eq_some_iff.1 h80.out).1, fun z hz => by
              have hz0 : z = 0 := by simpa using hz
              subst hz0
              rw [cell_of_heap h80.out]; rfl⟩⟩
             refine step_pushAllI_at _ _ rfl wd.heap.size _ _ WD [l] v15x2.heap.size rfl rfl hown75.out hr80 (by simp; omega) hbv15x2.size ?_
             intro v81 v16x3 hown81 hg81 hl81
             replace hg81 : World.grownBy v15x2 v16x3 (Value.ownBlock (.slice a75 m75 c75)) := hg81
             obtain ⟨a81, m81, c81, rfl⟩ : ∃ a m c, v81 = Value.slice a m c := by
              obtain ⟨_, ⟨h1, _⟩ | ⟨g, cap, cur, h1, _⟩⟩ := hown81 <;> exact ⟨_, _, _, h1⟩
             have hbv16x3 : Below wd.heap.size wd v16x3 := hbv15x2.grown hg81 hbv15x2.size (fun q hq => (World.ownsRow.lt hown75.out q hq).1)
             replace hown81 := hidI hown81
             clear hg81 hl81 hr80
             have k0v16x3 := below_cell k0 hbv16x3 hlk0
             have k1v16x3 := below_cell k1 hbv16x3 hlk1
             have k2v16x3 := below_cell k2 hbv16x3 hlk2
             refine hK.out _ _ ?_ (fun hHeld => ?_)
             · try dsimp only
               ((repeat' apply And.intro) <;> assumption)
             clear hK
             try simp only [Act.put, lyA, lyB, lyC]
             refine tk 17 82 ?_
             refine rd 18 (fun K hK => ?_)
             rw [if_pos (by rfl)]
             have hlong : (WD ++ [l]).length ≤ 1000000 := by rw [List.length_append]; simp; omega
             have hwkv := hwk.out.keep (w' := v16x3) (qb' := Value.ownBlock (.slice (some ⟨g', 0, none⟩) p cap')) hbv16x3.size (hbv16x3.block _ hlk1) (fun b q1 q2 q3 q4 => ⟨hbv16x3.block b q1, q4⟩)
             obtain ⟨cH, hcH⟩ := hwkv.some yN hyN
             have fH : ∀ j, v16x3.frozen? ⟨wa.heap.size, j, none⟩ = false := fun j => hwkv.frozen j
             replace hwkv := hidI hwkv
             obtain ⟨v5, hv5⟩ := exq (v16x3.setCell ⟨wa.heap.size, yN, none⟩ (.slice a81 m81 c81))
             have hmid := SearchSt.mid (l := l) (i := (k : Int)) hst hw7.out (by have := hbv16x3; exact ⟨this.os.trans hdo.out, this.tape.trans hdt.out, this.output.trans hdp.out, by have := this.size; have := hsd.out; omega, fun q hq => (this.block q (by have := hsd.out; omega)).trans (by have := hdh.out; rw [this])⟩) (by have := hown81.out; rw [show w7.heap.size = wd.heap.size from hsd.out.symm]; exact this) hlong hv5 hyN hyn (fun j hj => (hgS.out.vert j hj).1)
             have kv0 : v5.cell? ⟨g', k, none⟩ = some (.int .i64 (xN : Int)) := by rw [hv5]; exact setCell_cell k0v16x3 (by have := hst.qH; intro e; exact this (by rw [← e]; rfl))
             have kv1 : v5.cell? ⟨wa.heap.size, xN, none⟩ = some (.slice aw lw cw) := by rw [hv5, World.cell?_setCell_other _ _ _ _ (by simp <;> omega)]; exact k1v16x3
             have kv2 : v5.cell? ⟨bl, ol + j, none⟩ = some (.int .i64 l) := by rw [hv5]; exact setCell_cell k2v16x3 (by omega)
             have hB5 := hidI (show Below wa.heap.size wd v5 by rw [hv5]; exact (hbv16x3.mono (Nat.le_of_lt hlk1)).setCell (p := ⟨wa.heap.size, yN, none⟩) (Nat.le_refl _) _)
             have hkl5 := hidI (show ∀ b, b ≠ wa.heap.size → b < wd.heap.size → v5.heap[b]? = wd.heap[b]? from fun b h1 h2 => by rw [hv5, heap_setCell_other _ _ _ _ h1]; exact hbv16x3.block b h2)
             have hs5 := hidI (show v16x3.heap.size = v5.heap.size by rw [hv5]; exact (setCell_size _ _ _).symm)
             replace hmid := hidI hmid
             go_simp
             rw [← hv5]
             replace hv5 := hidI hv5
             refine hK.out _ _ ?_ (fun hHeld => ?_)
             · try dsimp only
               ((repeat' apply And.intro) <;> assumption)
             clear hK
             try simp only [Act.put, lyA, lyB, lyC]
             refine wpAnyH_done (by kernel_rfl) ?_ _
             refine hnorm _ _ ?_
             clear hnorm hpan
             repeat clear hHeld
             try simp only [Exit.then]
             have hm1 := hmid.out.1
             have hm2 := hmid.out.2.1
             have hm3 := hmid.out.2.2.1
             have hm4 := hmid.out.2.2.2.1
             replace hm1 := hidI hm1
             replace hm2 := hidI hm2
             replace hm3 := hidI hm3
             go_wp2_with (at_builtin; go_must (refine wpList_pushI_at rfl _ _ rfl w1.heap.size (.slice (some ⟨g', 0, none⟩) p cap') (vts S) _ rfl rfl hm3.out (by rw [show (vts S).length = p from hvtl.out]; omega) (by have := hsw1.out; omega) ?_))
             intro v' w9 hown9 hg9 hloc9
             have hvT : vts (S ++ [(((yN : Int), l, (k : Int)), WD ++ [l])]) = vts S ++ [(yN : Int)] := by unfold vts; simp
             have hdone := SearchSt.done hst.GH hst.qG hst.qH (Nat.lt_of_lt_of_le hst.seen.lt hm4) (Nat.lt_of_lt_of_le hst.Hlt hm4) hm1.out hm2.out hvT hown9 hg9 hloc9
             obtain ⟨hst9, hs9, hold9⟩ := hdone
             have hownne : ∀ b, v'.ownBlock = some b → b < lo ∨ hi ≤ b := fun b hb => by
              rcases hloc9 with h | h
              · exact hblk.out b (by rw [← h]; exact hb)
              · rw [h] at hb; right; have hb2 : v5.heap.size + 1 = b := (by simpa using hb); have := hswr.out; omega
             have hF' := hidI (show SearchSt w9 w1.heap.size w1.heap.size wa.heap.size sN v' ((LS.take (j + 1)).foldl (arr1 es k) S0) ∧ (∀ b, v'.ownBlock = some b → b < lo ∨ hi ≤ b) from ⟨by rw [hSn.out, hyes.out]; exact hst9, hownne⟩)
             have hgblk := hblk.out g' rfl
             have hkeep9 := hidI (show KeepL lo hi wl w9 from fun q h1 h2 => by
              rw [hold9 q (by have := hswr.out; omega) (by simp [Value.ownBlock]; omega), hkl5.out q (by have := hlo.out; omega) (by have := hswr.out; have := hsd.out; have := hs37.out; omega), hdh.out, hoth7.out q (by have := hlo.out; omega), hb3'.out.block q (by have := hsw.out; omega)]
              exact hkeep.out q h1 h2)
             have hb9 := hidI (show Below w1.heap.size w1 w9 from by
              have z1 : Below w1.heap.size w1 wd := hb1wd.out
              have z2 := z1.trans (hB5.out.mono (by have := hlo.out; omega))
              refine (z2.alloc z2.size _).grown hg9 (by have := z2.size; simp; omega) (fun q hq => ?_)
              have h2 : g' = q := (by simpa [Value.ownBlock] using hq)
              have := hgw1.out
              omega)
             have hsw9 := hidI (show hi ≤ w9.heap.size by have := hswr.out; omega)
             clear hown9 hg9 hloc9 hst9 hold9 hownne
             go_wp2
             go_roundg (M - (j + 1))
             case rel => exact ⟨j + 1, by have := hj.out; omega, by go_num, hF', hkeep9, hb9, hsw9⟩
             case measure => have := hj.out; omega
            refine AllReadyH.cons rfl (fun K hK => ?_) AllReadyH.nil
            rw [if_pos (by rfl)]
            go_simp
            obtain ⟨v15x1, hv15x1⟩ := exq (v2x0.alloc (.cells #[.int .i64 l] 3))
            have hbv15x1 : Below wd.heap.size wd v15x1 := by rw [hv15x1]; exact hbv2x0.alloc hbv2x0.size _
            have hsv15x1 := hidI (show v15x1.heap.size = v2x0.heap.size + 1 by rw [hv15x1]; simp)
            have h80 := hidI (show v15x1.heap[v2x0.heap.size]? = some (.cells #[.int .i64 l] 3 (0, 0)) by rw [hv15x1]; exact heap_alloc_new _ _)
            replace hown67 := hidI (show OwnsI v15x1 wd.heap.size _ [] by rw [hv15x1]; exact World.ownsRow.alloc hown67.out _)
            rw [← hv15x1]
            replace hv15x1 := hidI hv15x1
            have k0v15x1 := below_cell k0 hbv15x1 hlk0
            have k1v15x1 := below_cell k1 hbv15x1 hlk1
            have k2v15x1 := below_cell k2 hbv15x1 hlk2
            refine hK.out _ _ ?_ (fun hHeld => ?_)
            · try dsimp only
              ((repeat' apply And.intro) <;> assumption)
            clear hK
            try simp only [Act.put, lyA, lyB, lyC]
            refine rd 10 (fun K hK => ?_)
            rw [if_pos (by rfl)]
            refine step_pushAllI_at _ _ rfl wd.heap.size _ _ [] WD wd.heap.size rfl rfl hown67.out (hrW.out.below hbv15x1) (by simp; omega) hbv15x1.size ?_
            intro v75 v10x2 hown75 hg75 hl75
            replace hg75 : World.grownBy v15x1 v10x2 (Value.ownBlock (.slice (some ⟨wd.heap.size, 0, none⟩) 0 0)) := hg75
            rw [List.nil_append] at hown75
            obtain ⟨a75, m75, c75, rfl⟩ : ∃ a m c, v75 = Value.slice a m c := by
             obtain ⟨_, ⟨h1, _⟩ | ⟨g, cap, cur, h1, _⟩⟩ := hown75 <;> exact ⟨_, _, _, h1⟩
            have hbv10x2 : Below wd.heap.size wd v10x2 := hbv15x1.grown hg75 hbv15x1.size (fun q hq => by have h2 : wd.heap.size = q := (by simpa [Value.ownBlock] using hq); have := hbwd.size; omega)
            have hsv10x2 := hidI hg75.size
            replace h80 := hidI (show v10x2.heap[v2x0.heap.size]? = some (.cells #[.int .i64 l] 3 (0, 0)) by rw [hg75.block _ (by have := hsv2x0.out; have := hsv15x1.out; have := hsv10x2.out;  omega) (by simp [Value.ownBlock]; have := hsv2x0.out; have := hsv15x1.out; have := hsv10x2.out;  omega)]; exact h80.out)
            replace hown75 := hidI hown75
            clear hg75 hl75
            have k0v10x2 := below_cell k0 hbv10x2 hlk0
            have k1v10x2 := below_cell k1 hbv10x2 hlk1
            have k2v10x2 := below_cell k2 hbv10x2 hlk2
            refine hK.out _ _ ?_ (fun hHeld => ?_)
            · try dsimp only
              ((repeat' apply And.intro) <;> assumption)
            clear hK
            try simp only [Act.put, lyA, lyB, lyC]
            refine rd 16 (fun K hK => ?_)
            rw [if_pos (by rfl)]
            have hr80 : ReadI v10x2.heap.size v10x2 (.slice (some ⟨v2x0.heap.size, 0, none⟩) 1 1) [l] := ⟨by simp, _, _, rfl, ⟨(fun e => by cases e), Nat.le_refl _⟩, .inr ⟨_, 0, rfl, (Array.getElem?_eq_some_iff.1 h80.out).1, fun z hz => by
             have hz0 : z = 0 := by simpa using hz
             subst hz0
             rw [cell_of_heap h80.out]; rfl⟩⟩
            refine step_pushAllI_at _ _ rfl wd.heap.size _ _ WD [l] v10x2.heap.size rfl rfl hown75.out hr80 (by simp; omega) hbv10x2.size ?_
            intro v81 v16x3 hown81 hg81 hl81
            replace hg81 : World.grownBy v10x2 v16x3 (Value.ownBlock (.slice a75 m75 c75)) := hg81
            obtain ⟨a81, m81, c81, rfl⟩ : ∃ a m c, v81 = Value.slice a m c := by
             obtain ⟨_, ⟨h1, _⟩ | ⟨g, cap, cur, h1, _⟩⟩ := hown81 <;> exact ⟨_, _, _, h1⟩
            have hbv16x3 : Below wd.heap.size wd v16x3 := hbv10x2.grown hg81 hbv10x2.size (fun q hq => (World.ownsRow.lt hown75.out q hq).1)
            replace hown81 := hidI hown81
            clear hg81 hl81 hr80
            have k0v16x3 := below_cell k0 hbv16x3 hlk0
            have k1v16x3 := below_cell k1 hbv16x3 hlk1
            have k2v16x3 := below_cell k2 hbv16x3 hlk2
            refine hK.out _ _ ?_ (fun hHeld => ?_)
            · try dsimp only
              ((repeat' apply And.intro) <;> assumption)
            clear hK
            try simp only [Act.put, lyA, lyB, lyC]
            refine tk 17 82 ?_
            refine rd 18 (fun K hK => ?_)
            rw [if_pos (by rfl)]
            have hlong : (WD ++ [l]).length ≤ 1000000 := by rw [List.length_append]; simp; omega
            have hwkv := hwk.out.keep (w' := v16x3) (qb' := Value.ownBlock (.slice (some ⟨g', 0, none⟩) p cap')) hbv16x3.size (hbv16x3.block _ hlk1) (fun b q1 q2 q3 q4 => ⟨hbv16x3.block b q1, q4⟩)
            obtain ⟨cH, hcH⟩ := hwkv.some yN hyN
            have fH : ∀ j, v16x3.frozen? ⟨wa.heap.size, j, none⟩ = false := fun j => hwkv.frozen j
            replace hwkv := hidI hwkv
            obtain ⟨v5, hv5⟩ := exq (v16x3.setCell ⟨wa.heap.size, yN, none⟩ (.slice a81 m81 c81))
            have hmid := SearchSt.mid (l := l) (i := (k : Int)) hst hw7.out (by have := hbv16x3; exact ⟨this.os.trans hdo.out, this.tape.trans hdt.out, this.output.trans hdp.out, by have := this.size; have := hsd.out; omega, fun q hq => (this.block q (by have := hsd.out; omega)).trans (by have := hdh.out; rw [this])⟩) (by have := hown81.out; rw [show w7.heap.size = wd.heap.size from hsd.out.symm]; exact this) hlong hv5 hyN hyn (fun j hj => (hgS.out.vert j hj).1)
            have kv0 : v5.cell? ⟨g', k, none⟩ = some (.int .i64 (xN : Int)) := by rw [hv5]; exact setCell_cell k0v16x3 (by have := hst.qH; intro e; exact this (by rw [← e]; rfl))
            have kv1 : v5.cell? ⟨wa.heap.size, xN, none⟩ = some (.slice aw lw cw) := by rw [hv5, World.cell?_setCell_other _ _ _ _ (by simp <;> omega)]; exact k1v16x3
            have kv2 : v5.cell? ⟨bl, ol + j, none⟩ = some (.int .i64 l) := by rw [hv5]; exact setCell_cell k2v16x3 (by omega)
            have hB5 := hidI (show Below wa.heap.size wd v5 by rw [hv5]; exact (hbv16x3.mono (Nat.le_of_lt hlk1)).setCell (p := ⟨wa.heap.size, yN, none⟩) (Nat.le_refl _) _)
            have hkl5 := hidI (show ∀ b, b ≠ wa.heap.size → b < wd.heap.size → v5.heap[b]? = wd.heap[b]? from fun b h1 h2 => by rw [hv5, heap_setCell_other _ _ _ _ h1]; exact hbv16x3.block b h2)
            have hs5 := hidI (show v16x3.heap.size = v5.heap.size by rw [hv5]; exact (setCell_size _ _ _).symm)
            replace hmid := hidI hmid
            go_simp
            rw [← hv5]
            replace hv5 := hidI hv5
            refine hK.out _ _ ?_ (fun hHeld => ?_)
            · try dsimp only
              ((repeat' apply And.intro) <;> assumption)
            clear hK
            try simp only [Act.put, lyA, lyB, lyC]
            refine wpAnyH_done (by kernel_rfl) ?_ _
            refine hnorm _ _ ?_
            clear hnorm hpan
            repeat clear hHeld
            try simp only [Exit.then]
            have hm1 := hmid.out.1
            have hm2 := hmid.out.2.1
            have hm3 := hmid.out.2.2.1
            have hm4 := hmid.out.2.2.2.1
            replace hm1 := hidI hm1
            replace hm2 := hidI hm2
            replace hm3 := hidI hm3
            go_wp2_with (at_builtin; go_must (refine wpList_pushI_at rfl _ _ rfl w1.heap.size (.slice (some ⟨g', 0, none⟩) p cap') (vts S) _ rfl rfl hm3.out (by rw [show (vts S).length = p from hvtl.out]; omega) (by have := hsw1.out; omega) ?_))
            intro v' w9 hown9 hg9 hloc9
            have hvT : vts (S ++ [(((yN : Int), l, (k : Int)), WD ++ [l])]) = vts S ++ [(yN : Int)] := by unfold vts; simp
            have hdone := SearchSt.done hst.GH hst.qG hst.qH (Nat.lt_of_lt_of_le hst.seen.lt hm4) (Nat.lt_of_lt_of_le hst.Hlt hm4) hm1.out hm2.out hvT hown9 hg9 hloc9
            obtain ⟨hst9, hs9, hold9⟩ := hdone
            have hownne : ∀ b, v'.ownBlock = some b → b < lo ∨ hi ≤ b := fun b hb => by
             rcases hloc9 with h | h
             · exact hblk.out b (by rw [← h]; exact hb)
             · rw [h] at hb; right; have hb2 : v5.heap.size + 1 = b := (by simpa using hb); have := hswr.out; omega
            have hF' := hidI (show SearchSt w9 w1.heap.size w1.heap.size wa.heap.size sN v' ((LS.take (j + 1)).foldl (arr1 es k) S0) ∧ (∀ b, v'.ownBlock = some b → b < lo ∨ hi ≤ b) from ⟨by rw [hSn.out, hyes.out]; exact hst9, hownne⟩)
            have hgblk := hblk.out g' rfl
            have hkeep9 := hidI (show KeepL lo hi wl w9 from fun q h1 h2 => by
             rw [hold9 q (by have := hswr.out; omega) (by simp [Value.ownBlock]; omega), hkl5.out q (by have := hlo.out; omega) (by have := hswr.out; have := hsd.out; have := hs37.out; omega), hdh.out, hoth7.out q (by have := hlo.out; omega), hb3'.out.block q (by have := hsw.out; omega)]
             exact hkeep.out q h1 h2)
            have hb9 := hidI (show Below w1.heap.size w1 w9 from by
             have z1 : Below w1.heap.size w1 wd := hb1wd.out
             have z2 := z1.trans (hB5.out.mono (by have := hlo.out; omega))
             refine (z2.alloc z2.size _).grown hg9 (by have := z2.size; simp; omega) (fun q hq => ?_)
             have h2 : g' = q := (by simpa [Value.ownBlock] using hq)
             have := hgw1.out
             omega)
            have hsw9 := hidI (show hi ≤ w9.heap.size by have := hswr.out; omega)
            clear hown9 hg9 hloc9 hst9 hold9 hownne
            go_wp2
            go_roundg (M - (j + 1))
            case rel => exact ⟨j + 1, by have := hj.out; omega, by go_num, hF', hkeep9, hb9, hsw9⟩
            case measure => have := hj.out; omega
           refine AllReadyH.cons rfl (fun K hK => ?_) AllReadyH.nil
           rw [if_pos (by rfl)]
           go_simp
           obtain ⟨v15x0, hv15x0⟩ := exq (wd.alloc (.cells #[.int .i64 l] 3))
           have hbv15x0 : Below wd.heap.size wd v15x0 := by rw [hv15x0]; exact hbwd.alloc hbwd.size _
           have hsv15x0 := hidI (show v15x0.heap.size = wd.heap.size + 1 by rw [hv15x0]; simp)
           have h80 := hidI (show v15x0.heap[wd.heap.size]? = some (.cells #[.int .i64 l] 3 (0, 0)) by rw [hv15x0]; exact heap_alloc_new _ _)
           rw [← hv15x0]
           replace hv15x0 := hidI hv15x0
           have k0v15x0 := below_cell k0 hbv15x0 hlk0
           have k1v15x0 := below_cell k1 hbv15x0 hlk1
           have k2v15x0 := below_cell k2 hbv15x0 hlk2
           refine hK.out _ _ ?_ (fun hHeld => ?_)
           · try dsimp only
             ((repeat' apply And.intro) <;> assumption)
           clear hK
           try simp only [Act.put, lyA, lyB, lyC]
           refine rd 2 (fun K hK => ?_)
           rw [if_pos (by rfl)]
           go_simp
           obtain ⟨v2x1, hv2x1⟩ := exq (v15x0.alloc (.cells #[] 3))
           have hbv2x1 : Below wd.heap.size wd v2x1 := by rw [hv2x1]; exact hbv15x0.alloc hbv15x0.size _
           have hsv2x1 := hidI (show v2x1.heap.size = v15x0.heap.size + 1 by rw [hv2x1]; simp)
           have hown67 := hidI (show OwnsI v2x1 wd.heap.size (.slice (some ⟨v15x0.heap.size, 0, none⟩) 0 0) [] by rw [hv2x1]; exact (OwnsI.lit v15x0).mono hbv15x0.size)
           have h80v2x1 := hidI (show v2x1.heap[wd.heap.size]? = some (.cells #[.int .i64 l] 3 (0, 0)) by rw [hv2x1, heap_alloc_old _ _ (by have := hsv15x0.out; have := hsv2x1.out;  omega)]; exact h80.out)
           replace h80 := h80v2x1
           rw [← hv2x1]
           replace hv2x1 := hidI hv2x1
           have k0v2x1 := below_cell k0 hbv2x1 hlk0
           have k1v2x1 := below_cell k1 hbv2x1 hlk1
           have k2v2x1 := below_cell k2 hbv2x1 hlk2
           refine hK.out _ _ ?_ (fun hHeld => ?_)
           · try dsimp only
             ((repeat' apply And.intro) <;> assumption)
           clear hK
           try simp only [Act.put, lyA, lyB, lyC]
           refine rd 10 (fun K hK => ?_)
           rw [if_pos (by rfl)]
           refine step_pushAllI_at _ _ rfl wd.heap.size _ _ [] WD wd.heap.size rfl rfl hown67.out (hrW.out.below hbv2x1) (by simp; omega) hbv2x1.size ?_
           intro v75 v10x2 hown75 hg75 hl75
           replace hg75 : World.grownBy v2x1 v10x2 (Value.ownBlock (.slice (some ⟨v15x0.heap.size, 0, none⟩) 0 0)) := hg75
           rw [List.nil_append] at hown75
           obtain ⟨a75, m75, c75, rfl⟩ : ∃ a m c, v75 = Value.slice a m c := by
            obtain ⟨_, ⟨h1, _⟩ | ⟨g, cap, cur, h1, _⟩⟩ := hown75 <;> exact ⟨_, _, _, h1⟩
           have hbv10x2 : Below wd.heap.size wd v10x2 := hbv2x1.grown hg75 hbv2x1.size (fun q hq => by have h2 : v15x0.heap.size = q := (by simpa [Value.ownBlock] using hq); have := hbv15x0.size; omega)
           have hsv10x2 := hidI hg75.size
           replace h80 := hidI (show v10x2.heap[wd.heap.size]? = some (.cells #[.int .i64 l] 3 (0, 0)) by rw [hg75.block _ (by have := hsv15x0.out; have := hsv2x1.out; have := hsv10x2.out;  omega) (by simp [Value.ownBlock]; have := hsv15x0.out; have := hsv2x1.out; have := hsv10x2.out;  omega)]; exact h80.out)
           replace hown75 := hidI hown75
           clear hg75 hl75
           have k0v10x2 := below_cell k0 hbv10x2 hlk0
           have k1v10x2 := below_cell k1 hbv10x2 hlk1
           have k2v10x2 := below_cell k2 hbv10x2 hlk2
           refine hK.out _ _ ?_ (fun hHeld => ?_)
           · try dsimp only
             ((repeat' apply And.intro) <;> assumption)
           clear hK
           try simp only [Act.put, lyA, lyB, lyC]
           refine rd 16 (fun K hK => ?_)
           rw [if_pos (by rfl)]
           have hr80 : ReadI v10x2.heap.size v10x2 (.slice (some ⟨wd.heap.size, 0, none⟩) 1 1) [l] := ⟨by simp, _, _, rfl, ⟨(fun e => by cases e), Nat.le_refl _⟩, .inr ⟨_, 0, rfl, (Array.getElem?_eq_some_iff.1 h80.out).1, fun z hz => by
            have hz0 : z = 0 := by simpa using hz
            subst hz0
            rw [cell_of_heap h80.out]; rfl⟩⟩
           refine step_pushAllI_at _ _ rfl wd.heap.size _ _ WD [l] v10x2.heap.size rfl rfl hown75.out hr80 (by simp; omega) hbv10x2.size ?_
           intro v81 v16x3 hown81 hg81 hl81
           replace hg81 : World.grownBy v10x2 v16x3 (Value.ownBlock (.slice a75 m75 c75)) := hg81
           obtain ⟨a81, m81, c81, rfl⟩ : ∃ a m c, v81 = Value.slice a m c := by
            obtain ⟨_, ⟨h1, _⟩ | ⟨g, cap, cur, h1, _⟩⟩ := hown81 <;> exact ⟨_, _, _, h1⟩
           have hbv16x3 : Below wd.heap.size wd v16x3 := hbv10x2.grown hg81 hbv10x2.size (fun q hq => (World.ownsRow.lt hown75.out q hq).1)
           replace hown81 := hidI hown81
           clear hg81 hl81 hr80
           have k0v16x3 := below_cell k0 hbv16x3 hlk0
           have k1v16x3 := below_cell k1 hbv16x3 hlk1
           have k2v16x3 := below_cell k2 hbv16x3 hlk2
           refine hK.out _ _ ?_ (fun hHeld => ?_)
           · try dsimp only
             ((repeat' apply And.intro) <;> assumption)
           clear hK
           try simp only [Act.put, lyA, lyB, lyC]
           refine tk 17 82 ?_
           refine rd 18 (fun K hK => ?_)
           rw [if_pos (by rfl)]
           have hlong : (WD ++ [l]).length ≤ 1000000 := by rw [List.length_append]; simp; omega
           have hwkv := hwk.out.keep (w' := v16x3) (qb' := Value.ownBlock (.slice (some ⟨g', 0, none⟩) p cap')) hbv16x3.size (hbv16x3.block _ hlk1) (fun b q1 q2 q3 q4 => ⟨hbv16x3.block b q1, q4⟩)
           obtain ⟨cH, hcH⟩ := hwkv.some yN hyN
           have fH : ∀ j, v16x3.frozen? ⟨wa.heap.size, j, none⟩ = false := fun j => hwkv.frozen j
           replace hwkv := hidI hwkv
           obtain ⟨v5, hv5⟩ := exq (v16x3.setCell ⟨wa.heap.size, yN, none⟩ (.slice a81 m81 c81))
           have hmid := SearchSt.mid (l := l) (i := (k : Int)) hst hw7.out (by have := hbv16x3; exact ⟨this.os.trans hdo.out, this.tape.trans hdt.out, this.output.trans hdp.out, by have := this.size; have := hsd.out; omega, fun q hq => (this.block q (by have := hsd.out; omega)).trans (by have := hdh.out; rw [this])⟩) (by have := hown81.out; rw [show w7.heap.size = wd.heap.size from hsd.out.symm]; exact this) hlong hv5 hyN hyn (fun j hj => (hgS.out.vert j hj).1)
           have kv0 : v5.cell? ⟨g', k, none⟩ = some (.int .i64 (xN : Int)) := by rw [hv5]; exact setCell_cell k0v16x3 (by have := hst.qH; intro e; exact this (by rw [← e]; rfl))
           have kv1 : v5.cell? ⟨wa.heap.size, xN, none⟩ = some (.slice aw lw cw) := by rw [hv5, World.cell?_setCell_other _ _ _ _ (by simp <;> omega)]; exact k1v16x3
           have kv2 : v5.cell? ⟨bl, ol + j, none⟩ = some (.int .i64 l) := by rw [hv5]; exact setCell_cell k2v16x3 (by omega)
           have hB5 := hidI (show Below wa.heap.size wd v5 by rw [hv5]; exact (hbv16x3.mono (Nat.le_of_lt hlk1)).setCell (p := ⟨wa.heap.size, yN, none⟩) (Nat.le_refl _) _)
           have hkl5 := hidI (show ∀ b, b ≠ wa.heap.size → b < wd.heap.size → v5.heap[b]? = wd.heap[b]? from fun b h1 h2 => by rw [hv5, heap_setCell_other _ _ _ _ h1]; exact hbv16x3.block b h2)
           have hs5 := hidI (show v16x3.heap.size = v5.heap.size by rw [hv5]; exact (setCell_size _ _ _).symm)
           replace hmid := hidI hmid
           go_simp
           rw [← hv5]
           replace hv5 := hidI hv5
           refine hK.out _ _ ?_ (fun hHeld => ?_)
           · try dsimp only
             ((repeat' apply And.intro) <;> assumption)
           clear hK
           try simp only [Act.put, lyA, lyB, lyC]
           refine wpAnyH_done (by kernel_rfl) ?_ _
           refine hnorm _ _ ?_
           clear hnorm hpan
           repeat clear hHeld
           try simp only [Exit.then]
           have hm1 := hmid.out.1
           have hm2 := hmid.out.2.1
           have hm3 := hmid.out.2.2.1
           have hm4 := hmid.out.2.2.2.1
           replace hm1 := hidI hm1
           replace hm2 := hidI hm2
           replace hm3 := hidI hm3
           go_wp2_with (at_builtin; go_must (refine wpList_pushI_at rfl _ _ rfl w1.heap.size (.slice (some ⟨g', 0, none⟩) p cap') (vts S) _ rfl rfl hm3.out (by rw [show (vts S).length = p from hvtl.out]; omega) (by have := hsw1.out; omega) ?_))
           intro v' w9 hown9 hg9 hloc9
           have hvT : vts (S ++ [(((yN : Int), l, (k : Int)), WD ++ [l])]) = vts S ++ [(yN : Int)] := by unfold vts; simp
           have hdone := SearchSt.done hst.GH hst.qG hst.qH (Nat.lt_of_lt_of_le hst.seen.lt hm4) (Nat.lt_of_lt_of_le hst.Hlt hm4) hm1.out hm2.out hvT hown9 hg9 hloc9
           obtain ⟨hst9, hs9, hold9⟩ := hdone
           have hownne : ∀ b, v'.ownBlock = some b → b < lo ∨ hi ≤ b := fun b hb => by
            rcases hloc9 with h | h
            · exact hblk.out b (by rw [← h]; exact hb)
            · rw [h] at hb; right; have hb2 : v5.heap.size + 1 = b := (by simpa using hb); have := hswr.out; omega
           have hF' := hidI (show SearchSt w9 w1.heap.size w1.heap.size wa.heap.size sN v' ((LS.take (j + 1)).foldl (arr1 es k) S0) ∧ (∀ b, v'.ownBlock = some b → b < lo ∨ hi ≤ b) from ⟨by rw [hSn.out, hyes.out]; exact hst9, hownne⟩)
           have hgblk := hblk.out g' rfl
           have hkeep9 := hidI (show KeepL lo hi wl w9 from fun q h1 h2 => by
            rw [hold9 q (by have := hswr.out; omega) (by simp [Value.ownBlock]; omega), hkl5.out q (by have := hlo.out; omega) (by have := hswr.out; have := hsd.out; have := hs37.out; omega), hdh.out, hoth7.out q (by have := hlo.out; omega), hb3'.out.block q (by have := hsw.out; omega)]
            exact hkeep.out q h1 h2)
           have hb9 := hidI (show Below w1.heap.size w1 w9 from by
            have z1 : Below w1.heap.size w1 wd := hb1wd.out
            have z2 := z1.trans (hB5.out.mono (by have := hlo.out; omega))
            refine (z2.alloc z2.size _).grown hg9 (by have := z2.size; simp; omega) (fun q hq => ?_)
            have h2 : g' = q := (by simpa [Value.ownBlock] using hq)
            have := hgw1.out
            omega)
           have hsw9 := hidI (show hi ≤ w9.heap.size by have := hswr.out; omega)
           clear hown9 hg9 hloc9 hst9 hold9 hownne
           go_wp2
           go_roundg (M - (j + 1))
           case rel => exact ⟨j + 1, by have := hj.out; omega, by go_num, hF', hkeep9, hb9, hsw9⟩
           case measure => have := hj.out; omega
       · have hneg : ¬ y ≥ 0 := h0
         have hno := arr1_no hy.out (.inl (by omega))
         have hF' := hidI (show SearchSt w3 w1.heap.size w1.heap.size wa.heap.size sN (.slice (some ⟨g', 0, none⟩) p cap') ((LS.take (j + 1)).foldl (arr1 es k) S0) ∧ (∀ b, Value.ownBlock (.slice (some ⟨g', 0, none⟩) p cap') = some b → b < lo ∨ hi ≤ b) from by rw [hSn, hno]; exact ⟨hst, hF.out.2⟩)
         replace hkeep3 := hidI hkeep3
         replace hb13 := hidI hb13
         replace hsw3 := hidI hsw3
         replace hst := hidI hst
         replace hSn := hidI hSn
         replace hno := hidI hno
         clear cq cl0
         go_wp2
         go_roundg (M - (j + 1))
         case rel => exact ⟨j + 1, by have := hj.out; omega, by go_num, hF', hkeep3, hb13, hsw3⟩
         case measure => have := hj.out; omega
     · obtain rfl : j = M := by omega
       have hji : ¬ (j : Int) < (j : Int) := by omega
       have hfull : LS.take j = LS := List.take_of_length_le (by have := hM.out; omega)
       have hF9 := hidI (show SearchSt wr w1.heap.size w1.heap.size wa.heap.size sN u8 (arrN es LS (uN : Int) (k + 1)) ∧ (∀ b, u8.ownBlock = some b → b < lo ∨ hi ≤ b) by rw [hnext.out, ← hfull]; exact hF.out)
       replace hfull := hidI hfull
       replace hj := hidI hj
       go_wp2
       go_roundg (41 - (k + 1))
       case rel => exact ⟨k + 1, by have := hk.out; omega, by go_num, hF9, hkeep, hb, hsw⟩
       case measure => have := hk.out; omega
  · have hki : ¬ (k : Int) < (m : Int) := by omega
    have hRk : R = S0 := by
     rw [hR.out, hS0]
     exact arrN_end (by rw [← hS0, ← hm0]; exact hlt) (by omega)
    have hr : LwSearch w sN R (.returned (.tuple #[.slice (some ⟨w1.heap.size, 0, none⟩) sN sN, .slice (some ⟨wa.heap.size, 0, none⟩) sN sN])) wr := by
     refine ⟨w1.heap.size, w1.heap.size, wa.heap.size, .slice (some ⟨g, 0, none⟩) m cp, rfl, ?_, hb1.out.trans (hb.out.mono (by omega))⟩
     rw [hRk]
     exact hF.out.1
    replace hr := hidI hr
    replace hRk := hidI hRk
    replace hS0 := hidI hS0
    replace hm0 := hidI hm0
    replace hk := hidI hk
    replace hgk := hidI hgk
    go_wp2
    go_ret2
    exact hr.out
end Go.Proofs.YtpjlamnjiilgbaaGreat
