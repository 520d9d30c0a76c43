/- Cores, the program: IsTree, CanonicalOrder. -/
import Derived.Test.YtecceaijdjnflaaGreatTD
import Derived.Test.YtecceaijdjnflaaGreatFP4
import Derived.Test.YtecceaijdjnflaaGreatFP6
import Derived.Test.YtecceaijdjnflaaGreatTA
import Derived.Deep.LoopGhost
namespace Go.Proofs.YtecceaijdjnflaaGreat
open Go.RowKit
set_option linter.unusedVariables false
set_option linter.unusedSimpArgs false

/-! ### The order in which vertices are found -/
theorem vts_at {S : List Ar} {i : Nat} (h : i < S.length) : (vts S).getD i 0 = (S.getD i d0).1.1 := by
  unfold vts
  rw [List.getD_eq_getElem?_getD, List.getElem?_map, List.getElem?_eq_getElem h, List.getD_eq_getElem?_getD, List.getElem?_eq_getElem h]; rfl
theorem vts_arr1 (es : List Ed) (i : Nat) (S : List Ar) (l : Int) : vts (arr1 es i S l) = coS es (S.getD i d0).1.1 (vts S) l := by
  unfold arr1 coS
  split
  · unfold vts; rw [List.map_append]; rfl
  · rfl
theorem arr1_at (es : List Ed) {i j : Nat} {S : List Ar} (l : Int) (h : j < S.length) : (arr1 es i S l).getD j d0 = S.getD j d0 := by
  unfold arr1
  split
  · exact getD_left h
  · rfl
theorem vts_fold (es : List Ed) (i : Nat) : ∀ (ls : List Int) (S : List Ar), i < S.length → vts (ls.foldl (arr1 es i) S) = ls.foldl (coS es (S.getD i d0).1.1) (vts S) := by
  intro ls
  induction ls with
  | nil => intro S _; rfl
  | cons l ls ih =>
    intro S h
    rw [List.foldl_cons, List.foldl_cons, ih _ (Nat.lt_of_lt_of_le h (arr1_le es i S l)), vts_arr1, arr1_at es l h]
theorem vts_arrN (es : List Ed) (ls : List Int) : ∀ k, vts (arrN es ls 0 k) = coN es ls k := by
  intro k
  induction k with
  | zero => rfl
  | succ k ih =>
    have hl : (arrN es ls 0 k).length = (coN es ls k).length := by rw [← ih]; simp [vts]
    unfold arrN coN
    rw [← hl]
    by_cases h : k < (arrN es ls 0 k).length
    · rw [if_pos h, if_pos h, vts_fold es k ls _ h, ih, coR, List.take_length, ← ih, vts_at h]
    · rw [if_neg h, if_neg h]; exact ih
theorem found_order {r s : Int} {es : List Ed} (h : isFo r s es = true) : ((foundA r es 0).map (·.1)).map (·.1) = coL r s es (letsN r.toNat) := by
  have hg : isGr r s es = true := by unfold isFo at h; rw [Bool.and_eq_true] at h; exact h.1
  have hl := isGr_lim hg
  have hgood := good_arrN (s := s.toNat) (u := 0) (es := es) (ls := letsN r.toNat) (by omega) (fun l hl => by have := letsN_in r.toNat l hl; omega) (nx_lt h)
  have hend := arrN_end (es := es) (ls := letsN r.toNat) (u := 0) (k := 40) (by have := (hgood 40).length; omega) (by omega)
  unfold coL foundA
  rw [if_pos h, hend, ← vts_arrN, List.map_map]; rfl
theorem fst_map_at {F : List Ed} {i : Nat} (h : i < F.length) : (F.map (·.1)).take (i + 1) = (F.map (·.1)).take i ++ [(F.getD i e0).1] := by
  rw [List.take_add_one, List.getElem?_map, List.getElem?_eq_getElem h, List.getD_eq_getElem?_getD, List.getElem?_eq_getElem h]; rfl
set_option maxRecDepth 100000 in
set_option maxHeartbeats 3200000 in
theorem progCanO (w : World) (r s : Int) (v : Value) (es : List Ed) (h : ReadE w.heap.size w v es) (hl : es.length ≤ 10000000) :
    Calls Tryz.prog 36 #[.agg #[.int .i64 r, .int .i64 s, v]] w (IntsRet w (coL r s es (letsN r.toNat))) := by
  obtain ⟨a, cap, rfl, hnc⟩ := h.form
  obtain ⟨n, hn⟩ : ∃ n, n = es.length := ⟨_, rfl⟩
  rw [← hn] at hl hnc ⊢
  rw [← hn] at h
  obtain ⟨w1, hw1⟩ : ∃ w1, w1 = w.alloc (.cells #[.int .i64 r, .int .i64 s, .slice a n cap] 28) := ⟨_, rfl⟩
  have hb1 : Below w.heap.size w w1 := by rw [hw1]; exact (Below.refl _ _).alloc (Nat.le_refl _) _
  have hs1 : w.heap.size < w1.heap.size := by rw [hw1]; simp
  obtain ⟨g0, g1, g2⟩ := box3 hw1
  have hcf := folded_any w1 r s (.slice a n cap) es ((h.below hb1).mono hb1.size) (by omega)
  obtain ⟨C, hC⟩ : ∃ F, F = coL r s es (letsN r.toNat) := ⟨_, rfl⟩
  rw [← hC]
  have hno : isFo r s es = false → C = [] := fun hb => by rw [hC, coL, hb, if_neg (by decide)]
  have hyes : isFo r s es = true → ((foundA r es 0).map (·.1)).map (·.1) = C := fun hb => by rw [hC]; exact found_order hb
  have hfl : isFo r s es = true → (foundA r es 0).length ≤ 40 := fun hb => by
    have hg : isGr r s es = true := by unfold isFo at hb; rw [Bool.and_eq_true] at hb; exact hb.1
    have := isGr_lim hg
    have := (foundA_good hb (u := 0) (by omega)).length
    omega
  have hww := hidI hw1.symm
  replace hno := hidI hno
  replace hyes := hidI hyes
  replace hfl := hidI hfl
  replace hC := hidI hC
  replace hn := hidI hn
  replace h := hidI h
  replace hw1 := hidI hw1
  go_enter Tryz.func36, Tryz.ntmps36
  go_wp2_with fail
  rw [hww.out]
  refine hcf.mono ?_
  rintro e w2 (⟨hfo, bm, rfl, hbm1, hbm2, hm, hb2⟩ | ⟨hfo, rfl, hb2⟩)
  · clear hcf
    have hbq := hidI (hb1.trans (hb2.mono hb1.size))
    have p0 := below_cell g0 hb2 hs1
    have hsz2 := hb2.size
    clear g0 g1 g2 hb2
    have hgr : isGr r s es = true := by unfold isFo at hfo; rw [Bool.and_eq_true] at hfo; exact hfo.1
    have hlim := isGr_lim hgr
    obtain ⟨rN, rfl⟩ : ∃ z : Nat, r = (z : Int) := ⟨r.toNat, by omega⟩
    obtain ⟨sN, rfl⟩ : ∃ z : Nat, s = (z : Int) := ⟨s.toNat, by omega⟩
    have hsr := search_any w2 rN sN 0 bm es hfo hm hbm2 (by omega)
    have hCe := hyes.out hfo
    have hFl := hfl.out hfo
    obtain ⟨F, hF⟩ : ∃ F, F = (foundA (rN : Int) es 0).map (·.1) := ⟨_, rfl⟩
    rw [show (((0 : Nat) : Int)) = 0 from rfl, ← hF] at hsr
    rw [← hF] at hCe
    have hFn : F.length ≤ 40 := by rw [hF, List.length_map]; exact hFl
    replace hF := hidI hF
    replace hFl := hidI hFl
    replace hCe := hidI hCe
    replace hfo := hidI hfo
    replace hgr := hidI hgr
    replace hlim := hidI hlim
    replace hm := hidI hm
    go_wp2_with fail
    refine hsr.mono ?_
    rintro e w3 ⟨fv, rfl, hrd, hb3⟩
    clear hsr
    obtain ⟨fa, fc, rfl, hfc⟩ := hrd.form
    obtain ⟨N, hN⟩ : ∃ N, N = F.length := ⟨_, rfl⟩
    have hrd2 : ReadE w3.heap.size w3 (.slice fa N fc) F := by rw [hN]; exact hrd
    have hbq3 := hidI (hbq.out.trans (hb3.mono hbq.out.size))
    rw [← hN] at hFn hfc ⊢
    replace hN := hidI hN
    replace hrd := hidI hrd2
    clear hrd2
    have hsz3 := hb3.size
    clear hb3
    have hst0 : Hid (OwnsI w3 w3.heap.size (.slice none 0 0) ((F.map (·.1)).take 0)) := hidI (World.ownsRow_nil _ _ _ _)
    go_wp2
    go_loopg [5, 20] N (fun g u i wr => ∃ k : Nat, k + g = N ∧ i = .int .i64 k ∧ Hid (OwnsI wr w3.heap.size u ((F.map (·.1)).take k)) ∧ Hid (Below w3.heap.size w3 wr))
    case atStart => exact ⟨0, by omega, rfl, hst0, hidI (Below.refl _ _)⟩
    case round =>
      clear hst0
      obtain ⟨k, hk, rfl, hst, hb⟩ := hrel
      have hsz := hb.out.size
      by_cases hlt : k < N
      · have hki : (k : Int) < (N : Int) := by omega
        have hjl : k < F.length := by have := hN.out; omega
        obtain ⟨b, off, hab, hBb, x0, x1, x2⟩ := ReadE.at3 (hrd.out.below hb.out) k hjl
        subst hab
        have hnx := fst_map_at hjl
        obtain ⟨f, hf⟩ : ∃ z, z = (F.getD k e0).1 := ⟨_, rfl⟩
        obtain ⟨l, hll⟩ : ∃ z, z = (F.getD k e0).2.1 := ⟨_, rfl⟩
        obtain ⟨t, ht⟩ : ∃ z, z = (F.getD k e0).2.2 := ⟨_, rfl⟩
        rw [← hf] at x0 hnx
        rw [← hll] at x1
        rw [← ht] at x2
        obtain ⟨L, hL⟩ : ∃ L, L = (F.map (·.1)).take k := ⟨_, rfl⟩
        have hLl : L.length ≤ 1000 := by rw [hL, List.length_take]; omega
        rw [← hL] at hst hnx
        obtain ⟨w4, hw4⟩ : ∃ z, z = wr.alloc (.cells #[.int .i64 f, .int .i64 l, .int .i64 t] 90) := ⟨_, rfl⟩
        have hb4 : Below wr.heap.size wr w4 := by rw [hw4]; exact (Below.refl _ _).alloc (Nat.le_refl _) _
        have e0_ : w4.cell? ⟨wr.heap.size, 0, none⟩ = some (.int .i64 f) := by
          have := cell_of_heap (heap_alloc_new wr (.cells #[.int .i64 f, .int .i64 l, .int .i64 t] 90)) 0
          rw [hw4]; exact this
        have hown4 : OwnsI w4 w3.heap.size u5 L := by rw [hw4]; exact World.ownsRow.alloc hst.out _
        have hb34 := hidI (hb.out.trans (hb4.mono hsz))
        have hs4 := hb4.size
        replace hown4 := hidI hown4
        replace hf := hidI hf
        replace hll := hidI hll
        replace ht := hidI ht
        replace hL := hidI hL
        replace hk := hidI hk
        replace hst := hidI hst
        replace hnx := hidI hnx
        replace hb4 := hidI hb4
        go_upto_region 8 with fail
        rw [← hw4]
        replace hw4 := hidI hw4
        clear x0 x1 x2
        go_wp2_with (at_builtin; go_must (refine wpList_pushI rfl _ _ rfl w3.heap.size _ L _ rfl rfl (by exact hown4.out) (by omega) (by omega) ?_))
        intro v' w6 hown6 hb6
        have hst7 : Hid (OwnsI w6 w3.heap.size v' ((F.map (·.1)).take (k + 1))) := hidI (by rw [hnx.out]; exact hown6)
        have hb36 := hidI (hb34.out.trans hb6)
        clear hown6 hb6
        go_wp2
        go_roundg (N - (k + 1))
        case rel => exact ⟨k + 1, by have := hk.out; omega, by go_num, hst7, hb36⟩
        case measure => have := hk.out; omega
      · obtain rfl : k = N := by omega
        have hfull : (F.map (·.1)).take k = C := by rw [List.take_of_length_le (by rw [List.length_map]; have := hN.out; omega)]; exact hCe.out
        rw [hfull] at hst
        have hCl : C.length ≤ 1000 := by rw [← hCe.out, List.length_map]; have := hN.out; omega
        have hfin : IntsRet w C (.returned u5) wr := ⟨_, rfl, (OwnsI.row hst.out (by omega)).wide hbq3.out.size (Nat.le_refl _), hbq3.out.trans (hb.out.mono hbq3.out.size)⟩
        replace hfin := hidI hfin
        replace hfull := hidI hfull
        replace hk := hidI hk
        go_wp2
        go_ret
        exact hfin.out
  · clear hcf
    have hC0 := hno.out hfo
    have hfin : IntsRet w C (.returned (.slice none 0 0)) w2 := ⟨_, rfl, ⟨by rw [hC0]; simp, .inl ⟨rfl, hC0⟩⟩, hb1.trans (hb2.mono hb1.size)⟩
    replace hfin := hidI hfin
    replace hC0 := hidI hC0
    replace hfo := hidI hfo
    go_wp2
    go_ret
    exact hfin.out
end Go.Proofs.YtecceaijdjnflaaGreat
