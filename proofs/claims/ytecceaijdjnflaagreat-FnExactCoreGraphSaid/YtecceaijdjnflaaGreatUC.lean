/- Cores, the program: numbersIn. -/
import Derived.Test.YtecceaijdjnflaaGreatUA
import Derived.Test.YtecceaijdjnflaaGreatQH
import Derived.Test.YtecceaijdjnflaaGreatQF
import Derived.Deep.LoopGhost
namespace Go.Proofs.YtecceaijdjnflaaGreat
open Go.RowKit
set_option linter.unusedVariables false
set_option linter.unusedSimpArgs false

/-- The numbers of the vertices: the places, -1 for none. -/
def nmL (r s : Int) (es : List Ed) (zs : List Int) : List Int := if okN r s es zs = true then (plN s.toNat zs zs.length).map (fun x => x - 1) else []
def numV (L : List Int) : List Value := L.map (fun x => iv (x - 1))
theorem numV_length (L : List Int) : (numV L).length = L.length := by simp [numV]
theorem numV_set (L : List Int) (z : Nat) (k : Int) : (numV L).toArray.setIfInBounds z (.int .i64 k) = (numV (L.set z (k + 1))).toArray := by
  unfold numV
  rw [List.setIfInBounds_toArray, List.map_set, show k + 1 - 1 = k by omega]; rfl
theorem numV_cell {w : World} {P z : Nat} {L : List Int} (h : w.heap[P]? = some (.cells (numV L).toArray 3 (0, 0))) (hz : z < L.length) : w.cell? ⟨P, z, none⟩ = some (.int .i64 (L.getD z 0 - 1)) := by
  rw [World.cell?, h]
  simp only
  rw [List.getElem?_toArray, numV, List.getElem?_map, List.getElem?_eq_getElem hz, List.getD_eq_getElem?_getD, List.getElem?_eq_getElem hz]; rfl
theorem numV_zero (s : Nat) : List.replicate s (Value.int .i64 (-1)) = numV (List.replicate s 0) := by unfold numV; rw [List.map_replicate]; rfl
theorem numV_row {w : World} {lo P : Nat} {L : List Int} (h : w.heap[P]? = some (.cells (numV L).toArray 3 (0, 0))) (hlo : lo ≤ P) (hl : L.length ≤ 1000) : RowI w lo w.heap.size (.slice (some ⟨P, 0, none⟩) L.length L.length) (L.map (fun x => x - 1)) := by
  refine ⟨by rw [List.length_map]; omega, .inr ⟨P, 0, L.length, _, by rw [List.length_map], hlo, (Array.getElem?_eq_some_iff.1 h).1, by rw [List.length_map]; exact Nat.le_refl _, h, fun i hi => ?_⟩⟩
  rw [List.length_map] at hi
  rw [Nat.zero_add, List.getElem?_toArray, numV, List.getElem?_map, List.getElem?_eq_getElem hi, List.getD_eq_getElem?_getD, List.getElem?_map, List.getElem?_eq_getElem hi]; rfl
set_option maxRecDepth 100000 in
set_option maxHeartbeats 3200000 in
theorem numbers_any (w : World) (r s : Int) (v vo : Value) (es : List Ed) (zs : List Int) (h : ReadE w.heap.size w v es) (hl : es.length ≤ 10000000) (ho : ReadI w.heap.size w vo zs) (hlo : zs.length ≤ 10000000) :
    Calls Tryz.prog 60 #[.agg #[.int .i64 r, .int .i64 s, v], vo] w (LwIntsBool w (nmL r s es zs) (okN r s es zs)) := by
  obtain ⟨a, cap, rfl, hnc⟩ := h.form
  have ho' := ho
  obtain ⟨hol, oa, oc, rfl, _, _⟩ := ho'
  obtain ⟨n, hn⟩ : ∃ n, n = es.length := ⟨_, rfl⟩
  obtain ⟨m, hm⟩ : ∃ m, m = zs.length := ⟨_, rfl⟩
  rw [← hn] at h
  rw [← hn] at hl hnc ⊢
  rw [← hm] at hlo ho hol ⊢
  obtain ⟨w1, hw1⟩ : ∃ w1, w1 = w.alloc (.cells #[.int .i64 r, .int .i64 s, .slice a n cap] 28) := ⟨_, rfl⟩
  have hb1 : Below w.heap.size w w1 := by rw [hw1]; exact (Below.refl _ _).alloc (Nat.le_refl _) _
  have hs1 : w.heap.size < w1.heap.size := by rw [hw1]; simp
  obtain ⟨g0, g1, g2⟩ := box3 hw1
  have his := progIsGr w1 r s (.slice a n cap) es ((h.below hb1).mono hb1.size) (by omega)
  obtain ⟨B, hB⟩ : ∃ B, B = isGr r s es := ⟨_, rfl⟩
  rw [← hB] at his
  obtain ⟨O, hO⟩ : ∃ B, B = okN r s es zs := ⟨_, rfl⟩
  obtain ⟨Z, hZ⟩ : ∃ B, B = nmL r s es zs := ⟨_, rfl⟩
  rw [← hO, ← hZ]
  have hOe : O = (B && decide (m ≠ 0 ∧ (m : Int) ≤ s) && plAll s.toNat zs m) := by rw [hO, hB, hm]; rfl
  have hyes0 : isGr r s es = true → zs.length ≠ 0 → CoIn s.toNat zs → O = true := fun h1 h2 h3 => by rw [hO]; exact okN_iff.2 ⟨h1, h2, h3⟩
  have hno : O = false → Z = [] := fun hf => by rw [hZ]; unfold nmL; rw [← hO, hf]; rfl
  have hyes : O = true → Z = (plN s.toNat zs m).map (fun x => x - 1) := fun hf => by rw [hZ]; unfold nmL; rw [← hO, hf, hm]; rfl
  have hfin0 : ∀ W, O = false → Below w.heap.size w W → LwIntsBool w Z O (.returned (.tuple #[.slice none 0 0, .bool false])) W := fun W hf hb => by
    rw [hno hf, hf]
    exact ⟨_, rfl, ⟨by simp, .inl ⟨rfl, rfl⟩⟩, hb⟩
  have hww := hidI hw1.symm
  have hb01 := hidI hb1
  replace hfin0 := hidI hfin0
  replace hOe := hidI hOe
  replace hyes0 := hidI hyes0
  replace hno := hidI hno
  replace hyes := hidI hyes
  replace hn := hidI hn
  replace hm := hidI hm
  replace h := hidI h
  replace ho := hidI ho
  replace hO := hidI hO
  replace hZ := hidI hZ
  replace hw1 := hidI hw1
  go_enter Tryz.func60, Tryz.ntmps60
  go_upto_region 1 with fail
  rw [hww.out]
  go_wp2_with fail
  refine his.mono ?_
  rintro e w2 ⟨rfl, hb2⟩
  clear his
  have q0 := below_cell g0 hb2 hs1
  have q1 := below_cell g1 hb2 hs1
  have q2 := below_cell g2 hb2 hs1
  have hb02 := hidI (hb1.trans (hb2.mono hb1.size))
  have hs2 : w.heap.size < w2.heap.size := Nat.lt_of_lt_of_le hs1 hb2.size
  clear hb2 g0 g1 g2
  cases B with
  | false =>
    have hOf : O = false := by rw [hOe.out]; rfl
    have hfin := hidI (hfin0.out w2 hOf hb02.out)
    replace hB := hidI hB
    replace hOf := hidI hOf
    go_wp2
    go_ret2
    exact hfin.out
  | true =>
    have hgr := hidI hB.symm
    replace hB := hidI hB
    by_cases hm0 : m = 0
    · have hmz : ((m : Int) == 0) = true := by rw [beq_iff_eq]; omega
      have hOf : O = false := by rw [hOe.out, hm0]; rfl
      have hfin := hidI (hfin0.out w2 hOf hb02.out)
      replace hm0 := hidI hm0
      replace hOf := hidI hOf
      go_wp2
      go_ret2
      exact hfin.out
    · have hmz : ((m : Int) == 0) = false := by rw [beq_eq_false_iff_ne]; omega
      have hlim := isGr_lim hgr.out
      obtain ⟨sN, rfl⟩ : ∃ sN : Nat, s = (sN : Int) := ⟨s.toNat, by omega⟩
      rw [Int.toNat_natCast] at hOe hyes hyes0
      have hsN : sN ≤ 40 ∧ 1 ≤ sN := by omega
      replace hlim := hidI hlim
      replace hm0 := hidI hm0
      obtain ⟨wa, hwa⟩ : ∃ z, z = w2.alloc (.cells #[.int .i64 (-1)] 3) := ⟨_, rfl⟩
      have hba : Below w2.heap.size w2 wa := by rw [hwa]; exact (Below.refl _ _).alloc (Nat.le_refl _) _
      have hrep := repeatI_any wa w2.heap.size (-1) (by rw [hwa]; simp) (by rw [hwa]; exact cell_newI _ _ _) sN (by omega)
      have x0 := below_cell q0 hba hs2
      have x1 := below_cell q1 hba hs2
      have x2 := below_cell q2 hba hs2
      have hba2 := hidI hba
      have hwaw := hidI hwa.symm
      replace hwa := hidI hwa
      clear hba
      go_wp2_with fail
      rw [hwaw.out]
      refine hrep.mono ?_
      rintro e w3 ⟨P, rfl, hP1, hP2, hheap, hb3⟩
      clear hrep q0 q1 q2
      have hsa : w.heap.size < wa.heap.size := Nat.lt_of_lt_of_le hs2 hba2.out.size
      rw [numV_zero] at hheap
      have hst0 : Hid (w3.heap[P]? = some (.cells (numV (plN sN zs 0)).toArray 3 (0, 0))) := hidI hheap
      have hb23 : Below w2.heap.size w2 w3 := hba2.out.trans (hb3.mono hba2.out.size)
      have hP0 : w2.heap.size ≤ P := Nat.le_trans hba2.out.size hP1
      replace x0 := below_cell x0 hb3 hsa
      replace x1 := below_cell x1 hb3 hsa
      replace x2 := below_cell x2 hb3 hsa
      have hs3 : w.heap.size < w3.heap.size := by omega
      have hb03 := hidI (hb02.out.trans (hb23.mono hb02.out.size))
      clear hb3 hheap hb23
      go_wp2
      go_loopg [23] m (fun g i wr => ∃ k : Nat, k + g = m ∧ i = .int .i64 k ∧ Hid (wr.heap[P]? = some (.cells (numV (plN sN zs k)).toArray 3 (0, 0))) ∧ Hid (∀ j, j < k → plB sN zs j = true) ∧ Hid (Below P w3 wr))
      case atStart => exact ⟨0, by omega, rfl, hst0, hidI (fun j h => by omega), hidI (Below.refl _ _)⟩
      case round =>
        clear hst0
        obtain ⟨k, hk, rfl, hst, hall, hb⟩ := hrel
        have hbr := hidI (hb03.out.trans (hb.out.mono (by omega)))
        have y0 := below_cell x0 hb.out (by omega)
        have y1 := below_cell x1 hb.out (by omega)
        have y2 := below_cell x2 hb.out (by omega)
        by_cases hlt : k < m
        · have hki : (k : Int) < (m : Int) := by omega
          obtain ⟨ob, ooff, hab, hBo, co⟩ := (ho.out.below hbr.out).at2 k (by have := hm.out; omega)
          subst hab
          obtain ⟨z, hz⟩ : ∃ z, z = zs.getD k 0 := ⟨_, rfl⟩
          rw [← hz] at co
          have hvx := gpVertex wr r (sN : Int) z a n cap
          have hpB : plB sN zs k = (decide (0 ≤ z ∧ z < (sN : Int)) && decide ((plN sN zs k).getD z.toNat 0 = 0)) := by rw [hz]; rfl
          replace hz := hidI hz
          replace hpB := hidI hpB
          have hsw := hb.out.size
          have hswb : w.heap.size < wr.heap.size := by omega
          have hPr : P < wr.heap.size := (Array.getElem?_eq_some_iff.1 hst.out).1
          by_cases hr : 0 ≤ z ∧ z < (sN : Int)
          case neg =>
            have hOf : O = false := by
              rw [hOe.out, plAll_not (i := k) hlt (by rw [hpB.out, decide_eq_false hr]; rfl), Bool.and_false]
            rw [decide_eq_false hr] at hvx
            replace hr := hidI hr
            replace hOf := hidI hOf
            replace hk := hidI hk
            go_wp2_with fail
            refine hvx.mono ?_
            rintro e w5 ⟨rfl, hb5⟩
            have hfin := hidI (hfin0.out w5 hOf.out (hbr.out.trans (hb5.mono hbr.out.size)))
            clear hvx
            go_wp2
            go_ret2
            exact hfin.out
          case pos =>
            rw [decide_eq_true hr] at hvx
            obtain ⟨zN, rfl⟩ : ∃ zN : Nat, z = (zN : Int) := ⟨z.toNat, by omega⟩
            rw [Int.toNat_natCast] at hpB
            have hzN : zN < sN := by omega
            have hzi : (zN : Int) < (sN : Int) := by omega
            have hlen := plN_length sN zs k
            obtain ⟨L, hL⟩ : ∃ L, L = plN sN zs k := ⟨_, rfl⟩
            rw [← hL] at hst hlen hpB
            obtain ⟨q, hq⟩ : ∃ q, q = L.getD zN 0 := ⟨_, rfl⟩
            rw [← hq] at hpB
            have hqb : 0 ≤ q ∧ q ≤ k := by rw [hq, hL]; exact plN_in sN zs k zN
            have hwq : (q - 1 : Int) = -1 ↔ q = 0 := by omega
            replace hr := hidI hr
            replace hk := hidI hk
            replace hq := hidI hq
            by_cases hq0 : q = 0
            case neg =>
              have hOf : O = false := by
                rw [hOe.out, plAll_not (i := k) hlt (by rw [hpB.out, decide_eq_false hq0, Bool.and_false]), Bool.and_false]
              have hne : ((q - 1 : Int) == -1) = false := by rw [beq_eq_false_iff_ne]; omega
              have hne2 : ((q - 1 : Int) != -1) = true := by rw [bne, hne]; rfl
              have hne3 : ¬ (q - 1 : Int) = -1 := by omega
              replace hOf := hidI hOf
              replace hlen := hidI hlen
              replace hL := hidI hL
              clear hwq
              go_wp2_with fail
              refine hvx.mono ?_
              rintro e w5 ⟨rfl, hb5⟩
              have hfin := hidI (hfin0.out w5 hOf.out (hbr.out.trans (hb5.mono hbr.out.size)))
              have cz := numV_cell (z := zN) (by rw [hb5.block P hPr]; exact hst.out) (by rw [hlen.out]; exact hzN)
              rw [← hq.out] at cz
              clear hvx
              go_wp2
              go_ret2
              exact hfin.out
            case pos =>
              have hne : ((q - 1 : Int) != -1) = false := by rw [hq0]; decide
              have hpk : plB sN zs k = true := by rw [hpB.out, hq0, decide_eq_true hr.out]; rfl
              have hne3 : (q - 1 : Int) = -1 := by omega
              have hLn : plN sN zs (k + 1) = L.set zN ((k : Int) + 1) := by rw [hL, plN, ← hz.out]; rfl
              replace hlen := hidI hlen
              replace hL := hidI hL
              replace hLn := hidI hLn
              replace hpk := hidI hpk
              replace hq0 := hidI hq0
              clear hwq
              go_wp2_with fail
              refine hvx.mono ?_
              rintro e w5 ⟨rfl, hb5⟩
              have hst5 : w5.heap[P]? = some (.cells (numV L).toArray 3 (0, 0)) := by rw [hb5.block P hPr]; exact hst.out
              have cz := numV_cell (z := zN) hst5 (by rw [hlen.out]; exact hzN)
              rw [← hq.out] at cz
              have fz := frozen_of_row w5 P zN _ _ hst5
              have hbz := hb.out.trans (hb5.mono (by omega))
              have hst6 : Hid ((w5.setCell ⟨P, zN, none⟩ (.int .i64 (k : Int))).heap[P]? = some (.cells (numV (plN sN zs (k + 1))).toArray 3 (0, 0))) := hidI (by
                rw [hLn.out, ← numV_set]
                exact heap_setCell_same w5 P zN _ _ _ hst5)
              have hb6 : Hid (Below P w3 (w5.setCell ⟨P, zN, none⟩ (.int .i64 (k : Int)))) := hidI (hbz.setCell (p := ⟨P, zN, none⟩) (Nat.le_refl _) _)
              have hall2 : Hid (∀ j, j < k + 1 → plB sN zs j = true) := hidI (fun j hj => by
                by_cases e : j = k
                · rw [e]; exact hpk.out
                · exact hall.out j (by omega))
              replace hst5 := hidI hst5
              clear hvx hbz
              go_wp2
              go_roundg (m - (k + 1))
              case rel => exact ⟨k + 1, by have := hk.out; omega, by go_num, hst6, hall2, hb6⟩
              case measure => have := hk.out; omega
        · obtain rfl : k = m := by omega
          have hpl : plAll sN zs k = true := (plAll_iff sN zs k).2 hall.out
          have hOt : O = true := hyes0.out hgr.out (by have := hm.out; have := hm0.out; omega) (plAll_iff2.1 (by rw [← hm.out]; exact hpl))
          have hfin : LwIntsBool w Z O (.returned (.tuple #[.slice (some ⟨P, 0, none⟩) sN sN, .bool true])) wr := by
            rw [hyes.out hOt, hOt]
            refine ⟨_, rfl, ?_, hbr.out⟩
            have hlen := plN_length sN zs k
            have := numV_row hst.out (lo := w.heap.size) (by omega) (by omega)
            rw [hlen] at this
            exact this
          replace hfin := hidI hfin
          replace hOt := hidI hOt
          replace hpl := hidI hpl
          replace hk := hidI hk
          go_wp2
          go_ret2
          exact hfin.out
end Go.Proofs.YtecceaijdjnflaaGreat
