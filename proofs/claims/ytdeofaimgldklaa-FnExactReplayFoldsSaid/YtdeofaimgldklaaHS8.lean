/- Folds replayed, the model: ReplayFolds (tools/hs8.py). -/
import Derived.Test.YtdeofaimgldklaaHX
import Derived.Test.YtdeofaimgldklaaHMS
import Derived.Test.YtdeofaimgldklaaBXR
import Derived.Test.YtdeofaimgldklaaJS
import Derived.Deep.LoopGhost
import Derived.Deep.Cut
import Derived.Deep.CutRange
namespace Go.Proofs.Ytdeofaimgldklaa
open Go.RowKit
set_option linter.unusedVariables false
set_option linter.unusedSimpArgs false

/-- A graph in a box of its own is stored in the box X. -/
theorem MSt.stored {w w' : World} {X base B lo hi : Nat} {r sz sz' : Int} {v : Value} {a : Option Addr} {c : Nat} {E E' : List Ed} (h : MSt w X base r sz v E) (hX : X < w.heap.size) (hbase : base ≤ w.heap.size) (hr : BoxRel w r sz' E' B lo hi a c w') :
    MSt (((w'.setCell ⟨X, 0, none⟩ (.int .i64 r)).setCell ⟨X, 1, none⟩ (.int .i64 sz')).setCell ⟨X, 2, none⟩ (.slice a E'.length c)) X base r sz' (.slice a E'.length c) E' := by
  obtain ⟨h1, _⟩ := h
  obtain ⟨q1, q2, q3, q4, q5, q6, q7, q8, q9⟩ := hr
  exact ⟨set3 ((q9.block X hX).trans h1) _ _ _, lo, hi, q8.set3_ (.inl (by omega)), by omega, by rw [size_set3]; exact q5, .inr (by omega)⟩
theorem take_mem {l : List tupF} {j : Nat} (hj : j < l.length) (f : tupF) : decide (f ∈ l.take (j + 1)) = (decide (f ∈ l.take j) || decide (f = l.getD j zeroF)) := by
  have e : l.take (j + 1) = l.take j ++ [l.getD j zeroF] := by rw [List.take_add_one, List.getElem?_eq_getElem hj, List.getD_eq_getElem?_getD, List.getElem?_eq_getElem hj]; rfl
  rw [e, Bool.eq_iff_iff]
  simp only [List.mem_append, List.mem_singleton, Bool.or_eq_true, decide_eq_true_eq]
set_option maxRecDepth 100000 in
set_option maxHeartbeats 6400000 in
theorem specReplay (w : World) (r s : Int) (v vl : Value) (es : List Ed) (l : List tupF) (h : ReadE w.heap.size w v es) (hs : -9223372036854775808 ≤ s ∧ s ≤ 9223372036854775807) (hl : es.length ≤ 1048576) (hf : ReadF w.heap.size w vl l) (hfl : l.length ≤ 100000000) :
    Calls Try.prog 28 #[.agg #[.int .i64 r, .int .i64 s, v], vl] w (LwGraphBool w r (reS r s es l) (reE r s es l) (reB r s es l)) := by
  obtain ⟨a, cap, rfl, hnc⟩ := h.form
  obtain ⟨n, hn⟩ : ∃ n, n = es.length := ⟨_, rfl⟩
  rw [← hn] at h
  rw [← hn] at hl hnc ⊢
  obtain ⟨wa, hwa⟩ : ∃ z, z = w.alloc (.cells #[.int .i64 r, .int .i64 s, .slice a n cap] 32) := ⟨_, rfl⟩
  obtain ⟨w1, hw1⟩ : ∃ z, z = wa.alloc (.cells #[.int .i64 0, .int .i64 0, .slice none 0 0] 32) := ⟨_, rfl⟩
  have hww : (w.alloc (.cells #[.int .i64 r, .int .i64 s, .slice a n cap] 32)).alloc (.cells #[.int .i64 0, .int .i64 0, .slice none 0 0] 32) = w1 := by rw [hw1, hwa]
  have hb1 : Below w.heap.size w w1 := by rw [← hww]; exact ((Below.refl _ _).alloc (Nat.le_refl _) _).alloc (by simp) _
  have hs1 : w1.heap.size = w.heap.size + 1 + 1 := by rw [← hww]; simp
  have hg := heap_box w (.cells #[.int .i64 r, .int .i64 s, .slice a n cap] 32) (.cells #[.int .i64 0, .int .i64 0, .slice none 0 0] 32)
  have hR := heap_alloc_new (w.alloc (.cells #[.int .i64 r, .int .i64 s, .slice a n cap] 32)) (.cells #[.int .i64 0, .int .i64 0, .slice none 0 0] 32)
  rw [hww] at hg hR
  rw [show (w.alloc (.cells #[.int .i64 r, .int .i64 s, .slice a n cap] 32)).heap.size = w.heap.size + 1 by simp] at hR
  have g0 : w1.cell? ⟨w.heap.size, 0, none⟩ = some (.int .i64 r) := by simpa using cell_of_heap hg 0
  have g1 : w1.cell? ⟨w.heap.size, 1, none⟩ = some (.int .i64 s) := by simpa using cell_of_heap hg 1
  have g2 : w1.cell? ⟨w.heap.size, 2, none⟩ = some (.slice a n cap) := by simpa using cell_of_heap hg 2
  obtain ⟨B, hB⟩ : ∃ B, B = isGr r s es := ⟨_, rfl⟩
  obtain ⟨ZS, hZS⟩ : ∃ B, B = reS r s es l := ⟨_, rfl⟩
  obtain ⟨ZE, hZE⟩ : ∃ B, B = reE r s es l := ⟨_, rfl⟩
  obtain ⟨ZB, hZB⟩ : ∃ B, B = reB r s es l := ⟨_, rfl⟩
  rw [← hZS, ← hZE, ← hZB]
  have hnall : reAll r s es l l.length = false → ZB = false ∧ ZS = s ∧ ZE = es := fun hf => by rw [hZS, hZE, hZB]; unfold reB reS reE; rw [hf]; exact ⟨by simp, by simp, by simp⟩
  have hall : reAll r s es l l.length = true → ZB = B ∧ ZS = (reSt r s es l l.length).1 ∧ ZE = (reSt r s es l l.length).2 := fun h2 => by rw [hZS, hZE, hZB]; unfold reB reS reE; rw [h2, ← hB]; exact ⟨by simp, by simp, by simp⟩
  have hRk : ∀ W, Below w1.heap.size w1 W → W.heap[w.heap.size + 1]? = some (.cells #[.int .i64 0, .int .i64 0, .slice none 0 0] 32 (0, 0)) := fun W hW => by rw [hW.block _ (by omega)]; exact hR
  have hend : ∀ (W : World) (x0 x1 x2 : Value), Below w.heap.size w W → Below w.heap.size w (((W.setCell ⟨w.heap.size + 1, 0, none⟩ x0).setCell ⟨w.heap.size + 1, 1, none⟩ x1).setCell ⟨w.heap.size + 1, 2, none⟩ x2) := fun W x0 x1 x2 hW => below_set3 hW (by omega)
  have hcopy := fun (W : World) (hr : ReadE W.heap.size W (.slice a es.length cap) es) => specCopy W r s _ es hr (by omega)
  have hisx := fun (W : World) (hr : ReadE W.heap.size W (.slice a es.length cap) es) => specIsGr W r s _ es hr hs (by omega)
  rw [← hn] at hcopy
  rw [← hn, ← hB] at hisx
  obtain ⟨al, cl, rfl, _⟩ := hf.form
  obtain ⟨nl, hnl⟩ : ∃ z, z = l.length := ⟨_, rfl⟩
  have hf0 := hidI hf
  rw [← hnl] at hfl ⊢
  rw [← hnl] at hf0
  rw [← hnl] at hnall hall
  clear hf
  have hcc1 := hcopy w1 ((h.below hb1).mono hb1.size)
  replace hcopy := hidI hcopy
  replace hisx := hidI hisx
  replace hnall := hidI hnall
  replace hall := hidI hall
  replace hRk := hidI hRk
  replace hend := hidI hend
  replace hww := hidI hww
  replace hn := hidI hn
  replace h := hidI h
  replace hg := hidI hg
  replace hR := hidI hR
  replace hs1 := hidI hs1
  replace hZS := hidI hZS
  replace hZE := hidI hZE
  replace hZB := hidI hZB
  replace hwa := hidI hwa
  replace hw1 := hidI hw1
  replace hnl := hidI hnl
  replace hB := hidI hB
  go_enter Try.func28, Try.ntmps28
  go_upto_region 1 with fail
  rw [hww.out]
  go_wp2_with fail
  refine hcc1.mono ?_
  rintro e w2 ⟨ca, cc, rfl, hrow2, hb2⟩
  rw [← hn.out]
  clear hcc1
  have hlt1 : w.heap.size + 1 < w1.heap.size := by have := hs1.out; omega
  have hb2l : w1.heap.size ≤ w2.heap.size := hb2.size
  obtain ⟨w3, hw3⟩ : ∃ z, z = w2.alloc (.cells #[.int .i64 r, .int .i64 s, .slice ca n cc] 32) := ⟨_, rfl⟩
  have hb3 : Below w2.heap.size w2 w3 := by rw [hw3]; exact (Below.refl _ _).alloc (Nat.le_refl _) _
  have hs3 : w3.heap.size = w2.heap.size + 1 := by rw [hw3]; simp
  have hk3 : w3.heap[w2.heap.size]? = some (.cells #[.int .i64 r, .int .i64 s, .slice ca n cc] 32 (0, 0)) := by rw [hw3]; exact heap_alloc_new _ _
  obtain ⟨X, hX⟩ : ∃ X, X = w2.heap.size := ⟨_, rfl⟩
  rw [← hX] at hk3 hs3
  have hb13 : Below w1.heap.size w1 w3 := hb2.trans (hb3.mono hb2l)
  have hb03 : Below w.heap.size w w3 := hb1.trans (hb13.mono (by omega))
  have g0' := below_cell (below_cell g0 hb2 (by omega)) hb3 (by omega)
  have g1' := below_cell (below_cell g1 hb2 (by omega)) hb3 (by omega)
  have g2' := below_cell (below_cell g2 hb2 (by omega)) hb3 (by omega)
  have hst0 : Hid (∃ v', MSt w3 X w1.heap.size r (reSt r s es l 0).1 v' (reSt r s es l 0).2) := hidI ⟨.slice ca n cc, by
    refine ⟨hk3, w1.heap.size, w2.heap.size, ?_, Nat.le_refl _, by omega, .inl (by omega)⟩
    have h5 := hrow2.below hb3 (Nat.le_refl _)
    have e2 := hn.out
    rw [e2]; exact h5⟩
  have hkb0 : Hid (Below X w3 w3) := hidI (Below.refl _ _)
  have hra0 : Hid (reAll r s es l 0 = true) := hidI rfl
  have hbX : w.heap.size + 1 < X := by omega
  have hX2 : w1.heap.size ≤ X := by omega
  have hXe := hidI hX
  clear hX
  have hX3 : X < w3.heap.size := by omega
  replace hs3 := hidI hs3
  replace hk3 := hidI hk3
  replace hb3 := hidI hb3
  replace hb2 := hidI hb2
  replace hb13 := hidI hb13
  replace hb03 := hidI hb03
  replace hrow2 := hidI hrow2
  go_upto_region 2 with fail
  rw [← hw3]
  replace hw3 := hidI hw3
  rw [← hXe.out]
  clear g0 g1 g2
  replace g0' := hidI g0'
  replace g1' := hidI g1'
  replace g2' := hidI g2'
  go_wp2
  go_loopg [7] nl (fun g ii wr => ∃ i : Nat, i + g = nl ∧ ii = .int .i64 (i : Int) ∧ Hid (reAll r s es l i = true) ∧ Hid (∃ v', MSt wr X w1.heap.size r (reSt r s es l i).1 v' (reSt r s es l i).2) ∧ Hid (Below X w3 wr) ∧ Hid (-9223372036854775808 ≤ (reSt r s es l i).1 ∧ (reSt r s es l i).1 ≤ 9223372036854775807))
  case atStart => exact ⟨0, by omega, by simp, hra0, hst0, hkb0, hidI hs⟩
  case round =>
    clear hst0 hkb0 hra0
    obtain ⟨i, hi, rfl, hra, hst, hkb, hsb⟩ := hrel
    obtain ⟨v6, hP⟩ := hst.out
    obtain ⟨T, hT⟩ : ∃ T, T = reSt r s es l i := ⟨_, rfl⟩
    have hTl := reSt_len r s es l i
    have hreo : reOk r s es l i = (okM r T.1 T.2 (l.getD i zeroF) && decide (l.getD i zeroF ∈ foldsF T.2)) := by rw [hT]; rfl
    have hnx : reSt r s es l (i + 1) = (mrS r T.1 T.2 (l.getD i zeroF), mrE r T.1 T.2 (l.getD i zeroF)) := by rw [reSt, ← hT]
    rw [← hT] at hP hTl hsb
    obtain ⟨sz, E⟩ := T
    simp only at hP hTl hreo hnx hsb
    obtain ⟨av, cv, rfl⟩ := hP.form
    have hXr : X < wr.heap.size := by have := hkb.out.size; omega
    have hbr : Below w.heap.size w wr := hb03.out.trans (hkb.out.mono (by omega))
    have hbr1 : Below w1.heap.size w1 wr := hb13.out.trans (hkb.out.mono (by omega))
    obtain ⟨m, hm⟩ : ∃ m, m = E.length := ⟨_, rfl⟩
    have hbox := hP.1
    have x0 := cell_of_heap hbox 0
    have x1 := cell_of_heap hbox 1
    have x2 := cell_of_heap hbox 2
    simp at x0 x1 x2
    rw [← hm] at x2
    have hEl : E.length ≤ 1048576 := by have := hn.out; omega
    replace hm := hidI hm
    replace hT := hidI hT
    replace hbox := hidI hbox
    replace hreo := hidI hreo
    replace hnx := hidI hnx
    replace hi := hidI hi
    clear hst
    by_cases hlt : i < nl
    · have hii : (i : Int) < (nl : Int) := by omega
      obtain ⟨b, off, hab, hBb, c0, c1⟩ := ReadF.cells (hf0.out.below hbr) i (by have := hnl.out; omega)
      subst hab
      obtain ⟨⟨k, d⟩, hkd⟩ : ∃ f, f = l.getD i zeroF := ⟨_, rfl⟩
      rw [← hkd] at c0 c1
      simp only at c0 c1
      have hreo2 := hreo.out
      have hnx2 := hnx.out
      rw [← hkd] at hreo2 hnx2
      have hpf := specFolds wr r sz _ E hP.read (by omega)
      obtain ⟨FF, hFF⟩ : ∃ z, z = foldsF E := ⟨_, rfl⟩
      rw [← hFF, ← hm.out] at hpf
      have hFl : FF.length ≤ 2199023255552 := by
        have h1 := foldsF_length E
        have : E.length * E.length ≤ 1048576 * 1048576 := Nat.mul_le_mul hEl hEl
        rw [hFF]; omega
      rw [← hFF] at hreo2
      replace hFF := hidI hFF
      replace hkd := hidI hkd
      replace hreo2 := hidI hreo2
      replace hnx2 := hidI hnx2
      replace hP := hidI hP
      have hbr' := hidI hbr
      have hbr1' := hidI hbr1
      clear hbr hbr1
      go_wp2_with fail
      refine hpf.mono ?_
      rintro e w7 ⟨aL, cL, rfl, hrow7, hb7⟩
      clear hpf
      have hs7 := hb7.size
      have hrd7 : ReadF w7.heap.size w7 (.slice aL FF.length cL) FF := hrow7.read
      replace x0 := below_cell x0 hb7 hXr
      replace x1 := below_cell x1 hb7 hXr
      replace x2 := below_cell x2 hb7 hXr
      have hbl : b < wr.heap.size := by have := hbr'.out.size; omega
      replace c0 := below_cell c0 hb7 hbl
      replace c1 := below_cell c1 hb7 hbl
      have hP7 := hidI (hP.out.below hXr hb7)
      have hkb7 := hidI (hkb.out.trans (hb7.mono (Nat.le_of_lt hXr)))
      have hbr7 := hidI (hbr'.out.trans (hb7.mono hbr'.out.size))
      have hbr17 := hidI (hbr1'.out.trans (hb7.mono hbr1'.out.size))
      obtain ⟨nF, hnF⟩ : ∃ z, z = FF.length := ⟨_, rfl⟩
      rw [← hnF] at hrd7 hrow7 hFl ⊢
      have hX7 : X < w7.heap.size := by omega
      have hw70 : Hid (∃ m, w7 = w7.drewN m) := hidI ⟨0, rfl⟩
      have hc0 : Hid (decide ((k, d) ∈ FF.take 0) = false) := hidI (by simp)
      replace hrow7 := hidI hrow7
      replace hrd7 := hidI hrd7
      replace hb7 := hidI hb7
      replace hnF := hidI hnF
      go_wp2
      go_loopg [8, 10] nF (fun g fv kk wq => ∃ (j : Nat) (C : Bool), j + g = nF ∧ kk = .int .i64 (j : Int) ∧ fv = .bool C ∧ Hid (decide ((k, d) ∈ FF.take j) = C) ∧ Hid (∃ m, wq = w7.drewN m))
      case atStart => exact ⟨0, false, by omega, by simp, rfl, hc0, hw70⟩
      case round =>
        clear hw70 hc0
        obtain ⟨j, C, hj, rfl, rfl, hC, hwq⟩ := hrel
        obtain ⟨mq, hwq'⟩ := hwq.out
        subst hwq'
        by_cases hjl : j < nF
        · have hji : (j : Int) < (nF : Int) := by omega
          obtain ⟨b', off', haL, hBb', d0, d1⟩ := ReadF.cells hrd7.out j (by have := hnF.out; omega)
          subst haL
          obtain ⟨⟨k', d'⟩, hkd'⟩ : ∃ f, f = FF.getD j zeroF := ⟨_, rfl⟩
          rw [← hkd'] at d0 d1
          simp only at d0 d1
          have hCn := take_mem (show j < FF.length by have := hnF.out; omega) (k, d)
          rw [hC.out, ← hkd'] at hCn
          replace hj := hidI hj
          replace hkd' := hidI hkd'
          replace hCn := hidI hCn
          cases C with
          | true =>
            have hC9 : Hid (decide ((k, d) ∈ FF.take (j + 1)) = true) := hidI (by rw [hCn.out]; rfl)
            replace hC := hidI hC.out
            go_wp2
            go_quiet (fail)
            go_wp2
            go_roundg (nF - (j + 1))
            case rel => exact ⟨j + 1, true, by have := hj.out; omega, by go_num, rfl, hC9, hidI ⟨_, rfl⟩⟩
            case measure => have := hj.out; omega
          | false =>
            by_cases q1 : k = k'
            · by_cases q2 : d = d'
              · have hC9 : Hid (decide ((k, d) ∈ FF.take (j + 1)) = true) := hidI (by rw [hCn.out, q1, q2]; simp)
                subst q1 q2
                replace hC := hidI hC.out
                go_wp2
                go_quiet (fail)
                go_wp2
                go_roundg (nF - (j + 1))
                case rel => exact ⟨j + 1, true, by have := hj.out; omega, by go_num, rfl, hC9, hidI ⟨_, rfl⟩⟩
                case measure => have := hj.out; omega
              · have hC9 : Hid (decide ((k, d) ∈ FF.take (j + 1)) = false) := hidI (by rw [hCn.out]; simp [q2])
                have u1 : (d == d') = false := by rw [beq_eq_false_iff_ne]; exact q2
                have u2 : (d' == d) = false := by rw [beq_eq_false_iff_ne]; exact fun e => q2 e.symm
                subst q1
                replace q2 := hidI q2
                replace hC := hidI hC.out
                go_wp2
                go_quiet (fail)
                go_wp2
                go_roundg (nF - (j + 1))
                case rel => exact ⟨j + 1, false, by have := hj.out; omega, by go_num, rfl, hC9, hidI ⟨_, rfl⟩⟩
                case measure => have := hj.out; omega
            · have hC9 : Hid (decide ((k, d) ∈ FF.take (j + 1)) = false) := hidI (by rw [hCn.out]; simp [q1])
              have u1 : (k == k') = false := by rw [beq_eq_false_iff_ne]; exact q1
              have u2 : (k' == k) = false := by rw [beq_eq_false_iff_ne]; exact fun e => q1 e.symm
              replace q1 := hidI q1
              replace hC := hidI hC.out
              go_wp2
              go_quiet (fail)
              go_wp2
              go_roundg (nF - (j + 1))
              case rel => exact ⟨j + 1, false, by have := hj.out; omega, by go_num, rfl, hC9, hidI ⟨_, rfl⟩⟩
              case measure => have := hj.out; omega
        · obtain rfl : j = nF := by omega
          have hji : ¬ (j : Int) < (j : Int) := by omega
          have hCF : decide ((k, d) ∈ FF) = C := by
            have := hC.out
            rw [List.take_of_length_le (by have := hnF.out; omega)] at this
            exact this
          obtain ⟨wb, hwb⟩ : ∃ z, z = w7.drewN mq := ⟨_, rfl⟩
          have hbb : Below w7.heap.size w7 wb := by rw [hwb]; exact below_dn (Below.refl _ _) mq
          have hsb7 : wb.heap.size = w7.heap.size := by rw [hwb]; rfl
          have hlb7 : b < w7.heap.size := by omega
          replace x0 := below_cell x0 hbb hX7
          replace x1 := below_cell x1 hbb hX7
          replace x2 := below_cell x2 hbb hX7
          replace c0 := below_cell c0 hbb hlb7
          replace c1 := below_cell c1 hbb hlb7
          have hPb := hidI (hP7.out.below hX7 hbb)
          have hkb := hidI (hkb7.out.trans (hbb.mono (Nat.le_of_lt hX7)))
          have hbrb := hidI (hbr7.out.trans (hbb.mono hbr7.out.size))
          have hbrb1 := hidI (hbr17.out.trans (hbb.mono hbr17.out.size))
          have hXb : X < wb.heap.size := by omega
          have hlb : b < wb.heap.size := by omega
          obtain ⟨u, hu⟩ : ∃ z, z = wb.drew := ⟨_, rfl⟩
          have hbu : Below wb.heap.size wb u := by rw [hu]; exact below_dn (Below.refl _ _) 1
          have hsu : u.heap.size = wb.heap.size := by rw [hu]; rfl
          have hsu1 : wb.heap.size ≤ u.heap.size ∧ u.heap.size ≤ wb.heap.size := by omega
          replace hsu := hidI hsu
          have y0 := below_cell x0 hbu hXb
          have y1 := below_cell x1 hbu hXb
          have y2 := below_cell x2 hbu hXb
          have y3 := below_cell c0 hbu hlb
          have y4 := below_cell c1 hbu hlb
          have hXu : X < u.heap.size := by omega
          have hlu : b < u.heap.size := by omega
          have hPu : MSt u X w1.heap.size r sz (.slice av E.length cv) E := hPb.out.below hXb hbu
          obtain ⟨ME, hME⟩ : ∃ z, z = mrE r sz E (k, d) := ⟨_, rfl⟩
          obtain ⟨MS, hMS⟩ : ∃ z, z = mrS r sz E (k, d) := ⟨_, rfl⟩
          obtain ⟨OB, hOB⟩ : ∃ z, z = okM r sz E (k, d) := ⟨_, rfl⟩
          have hcall := fun (W : World) (hW : Below u.heap.size u W) => specMerge W r sz k d (.slice av E.length cv) E ((hPu.read.below hW).mono hW.size) hsb.out (by omega)
          rw [← hm.out, ← hME, ← hMS, ← hOB] at hcall
          have hre : reOk r s es l i = (OB && C) := by rw [hreo2.out, ← hOB, hCF]
          have hnx3 : reSt r s es l (i + 1) = (MS, ME) := by rw [hnx2.out, ← hME, ← hMS]
          have hMSb : -9223372036854775808 ≤ MS ∧ MS ≤ 9223372036854775807 := by
            rw [hMS]
            unfold mrS
            split
            · rename_i h2
              have h3 := (isGr_iff.1 (okM_iff.1 h2).1).2.2.2
              omega
            · exact hsb.out
          obtain ⟨mm, hmm⟩ : ∃ z, z = ME.length := ⟨_, rfl⟩
          replace hmm := hidI hmm
          replace hre := hidI hre
          replace hnx3 := hidI hnx3
          replace hMSb := hidI hMSb
          replace hCF := hidI hCF
          replace hC := hidI hC
          replace hwb := hidI hwb
          replace hbb := hidI hbb
          replace hsb7 := hidI hsb7
          replace hbu := hidI hbu
          replace hME := hidI hME
          replace hMS := hidI hMS
          replace hOB := hidI hOB
          replace hPu := hidI hPu
          replace hu := hidI hu
          replace hcall := hidI hcall
          replace hj := hidI hj
          replace hwq := hidI hwq
          go_wp2_with fail
          rw [← hwb.out]
          go_cut [11, 12] from 41 to 49 (fun yv iv wx => ∃ (B' lo hi : Nat) (a' : Option Addr) (c' : Nat), yv = .pointer (some ⟨B', 0, none⟩) ∧ iv = .bool OB ∧ BoxRel wb r MS ME B' lo hi a' c' wx)
          case first =>
            refine hideQ (fun _ _ d _ _ h => by cases d <;> exact h) (fun Q' hnorm hpan => ?_)
            refine wp_region_held_drew (S := (fun z => z.cell? ⟨X, 0, none⟩ = some (.int .i64 r) ∧ z.cell? ⟨X, 1, none⟩ = some (.int .i64 sz) ∧ z.cell? ⟨X, 2, none⟩ = some (.slice av m cv) ∧ z.cell? ⟨b, off + i * 2, none⟩ = some (.int .i64 k) ∧ z.cell? ⟨b, off + i * 2 + 1, none⟩ = some (.int .i64 d))) (by kernel_rfl) ?_ (fun hHeld => ?_)
            · try dsimp only
              rw [← hu.out]
              ((repeat' apply And.intro) <;> assumption)
            rw [← hu.out] at hHeld ⊢
            refine take_at 0 42 (v := ?_) rfl (by kernel_rfl) (by kernel_rfl) (by kernel_rfl) (by kernel_rfl) hpan (Or.inl ⟨by rfl, ?_⟩) (by assumption) ?_
            rotate_left
            · intro w hSw; (try dsimp only at hSw); go_simp; with_reducible rfl
            simp only [Act.put, List.setIfInBounds_toArray, List.set_cons_zero, List.set_cons_succ]
            refine take_at 1 43 (v := ?_) rfl (by kernel_rfl) (by kernel_rfl) (by kernel_rfl) (by kernel_rfl) hpan (Or.inl ⟨by rfl, ?_⟩) (by assumption) ?_
            rotate_left
            · intro w hSw; (try dsimp only at hSw); go_simp; with_reducible rfl
            simp only [Act.put, List.setIfInBounds_toArray, List.set_cons_zero, List.set_cons_succ]
            refine take_at 2 44 (v := ?_) rfl (by kernel_rfl) (by kernel_rfl) (by kernel_rfl) (by kernel_rfl) hpan (Or.inl ⟨by rfl, ?_⟩) (by assumption) ?_
            rotate_left
            · intro w hSw; (try dsimp only at hSw); go_simp; with_reducible rfl
            simp only [Act.put, List.setIfInBounds_toArray, List.set_cons_zero, List.set_cons_succ]
            refine take_at 3 45 (v := ?_) rfl (by kernel_rfl) (by kernel_rfl) (by kernel_rfl) (by kernel_rfl) hpan (Or.inl ⟨by rfl, ?_⟩) (by assumption) ?_
            rotate_left
            · intro w hSw; (try dsimp only at hSw); go_simp; with_reducible rfl
            simp only [Act.put, List.setIfInBounds_toArray, List.set_cons_zero, List.set_cons_succ]
            refine take_at 4 46 (v := ?_) rfl (by kernel_rfl) (by kernel_rfl) (by kernel_rfl) (by kernel_rfl) hpan (Or.inl ⟨by rfl, ?_⟩) (by assumption) ?_
            rotate_left
            · intro w hSw; (try dsimp only at hSw); go_simp; with_reducible rfl
            simp only [Act.put, List.setIfInBounds_toArray, List.set_cons_zero, List.set_cons_succ]
            refine wpAnyH_ready (rs := [5, 9]) (by kernel_rfl) (by simp) ?_
            refine AllReadyH.cons rfl (fun Kz hK => ?_) ?_
            ·
              rw [if_pos (by rfl)]
              go_simp
              go_at_call 15
              (with_reducible refine (hcall.out u (Below.refl _ _)).mono ?_)
              rintro e w8 ⟨a8, c8, rfl, hrow8, hb8⟩
              have hs8 := hb8.size
              rw [← hmm.out]
              replace y0 := below_cell y0 hb8 (by omega)
              replace y1 := below_cell y1 hb8 (by omega)
              replace y2 := below_cell y2 hb8 (by omega)
              replace y3 := below_cell y3 hb8 (by omega)
              replace y4 := below_cell y4 hb8 (by omega)
              refine hK.out _ _ ?_ (fun hHeld => ?_)
              · try dsimp only
                ((repeat' apply And.intro) <;> assumption)
              clear hK
              try simp only [Act.put, List.setIfInBounds_toArray, List.set_cons_zero, List.set_cons_succ]
              refine take_at 6 41 (v := ?_) rfl (by kernel_rfl) (by kernel_rfl) (by kernel_rfl) (by kernel_rfl) hpan (Or.inl ⟨by rfl, ?_⟩) (by assumption) ?_
              rotate_left
              · intro w hSw; (try dsimp only at hSw); go_simp; with_reducible rfl
              simp only [Act.put, List.setIfInBounds_toArray, List.set_cons_zero, List.set_cons_succ]
              refine take_at 7 48 (v := ?_) rfl (by kernel_rfl) (by kernel_rfl) (by kernel_rfl) (by kernel_rfl) hpan (Or.inl ⟨by rfl, ?_⟩) (by assumption) ?_
              rotate_left
              · intro w hSw; (try dsimp only at hSw); go_simp; with_reducible rfl
              simp only [Act.put, List.setIfInBounds_toArray, List.set_cons_zero, List.set_cons_succ]
              refine take_at 8 49 (v := ?_) rfl (by kernel_rfl) (by kernel_rfl) (by kernel_rfl) (by kernel_rfl) hpan (Or.inl ⟨by rfl, ?_⟩) (by assumption) ?_
              rotate_left
              · intro w hSw; (try dsimp only at hSw); go_simp; with_reducible rfl
              simp only [Act.put, List.setIfInBounds_toArray, List.set_cons_zero, List.set_cons_succ]
              refine wpAnyH_ready (rs := [9]) (by kernel_rfl) (by simp) ?_
              refine AllReadyH.cons rfl (fun Kz hK => ?_) AllReadyH.nil
              rw [if_pos (by rfl)]
              go_simp
              obtain ⟨w9, hn9⟩ : ∃ z, z = w8.alloc (.cells #[.int .i64 0, .int .i64 0, .slice none 0 0] 32) := ⟨_, rfl⟩
              have hb9 : Below w8.heap.size w8 w9 := by rw [hn9]; exact (Below.refl _ _).alloc (Nat.le_refl _) _
              have hs9 : w9.heap.size = w8.heap.size + 1 := by rw [hn9]; simp
              have hBA : w9.heap[w8.heap.size]? = some (.cells #[.int .i64 0, .int .i64 0, .slice none 0 0] 32 (0, 0)) := by rw [hn9]; exact heap_alloc_new _ _
              replace y0 := below_cell y0 hb9 (by omega)
              replace y1 := below_cell y1 hb9 (by omega)
              replace y2 := below_cell y2 hb9 (by omega)
              replace y3 := below_cell y3 hb9 (by omega)
              replace y4 := below_cell y4 hb9 (by omega)
              rw [← hn9]
              replace hn9 := hidI hn9
              obtain ⟨BB, hBB⟩ : ∃ z, z = w8.heap.size := ⟨_, rfl⟩
              rw [← hBB] at hBA ⊢
              have hBB2 : BB ≤ w8.heap.size ∧ w8.heap.size ≤ BB := by omega
              replace hBB := hidI hBB
              refine hK.out _ _ ?_ (fun hHeld => ?_)
              · try dsimp only
                ((repeat' apply And.intro) <;> assumption)
              clear hK
              try simp only [Act.put, List.setIfInBounds_toArray, List.set_cons_zero, List.set_cons_succ]
              refine wpAnyH_ready (rs := [10]) (by kernel_rfl) (by simp) ?_
              refine AllReadyH.cons rfl (fun Kz hK => ?_) AllReadyH.nil
              rw [if_pos (by rfl)]
              have z0 := cell_of_heap hBA 0
              have z1 := cell_of_heap hBA 1
              have z2 := cell_of_heap hBA 2
              have fz := fun j => frozen_of_row w9 BB j _ _ hBA
              simp at z0 z1 z2
              obtain ⟨w10, hn10⟩ : ∃ z, z = ((w9.setCell ⟨BB, 0, none⟩ (.int .i64 r)).setCell ⟨BB, 1, none⟩ (.int .i64 MS)).setCell ⟨BB, 2, none⟩ (.slice a8 mm c8) := ⟨_, rfl⟩
              replace y0 : w10.cell? ⟨X, 0, none⟩ = some (.int .i64 r) := by rw [hn10, World.cell?_of_block (heap_set3 (show X ≠ BB by omega))]; exact y0
              replace y1 : w10.cell? ⟨X, 1, none⟩ = some (.int .i64 sz) := by rw [hn10, World.cell?_of_block (heap_set3 (show X ≠ BB by omega))]; exact y1
              replace y2 : w10.cell? ⟨X, 2, none⟩ = some (.slice av m cv) := by rw [hn10, World.cell?_of_block (heap_set3 (show X ≠ BB by omega))]; exact y2
              replace y3 : w10.cell? ⟨b, off + i * 2, none⟩ = some (.int .i64 k) := by rw [hn10, World.cell?_of_block (heap_set3 (show b ≠ BB by omega))]; exact y3
              replace y4 : w10.cell? ⟨b, off + i * 2 + 1, none⟩ = some (.int .i64 d) := by rw [hn10, World.cell?_of_block (heap_set3 (show b ≠ BB by omega))]; exact y4
              have hrel : BoxRel wb r MS ME BB wb.heap.size w8.heap.size a8 c8 w10 := by
                rw [hn10]
                rw [hmm.out]
                exact ⟨by omega, by rw [size_set3]; omega, set3 hBA _ _ _, Nat.le_refl _, by rw [size_set3]; omega, by omega, .inr (by omega), (((by have h1 := hrow8; rw [hsu.out] at h1; exact h1) : RowS 68 3 w8 wb.heap.size w8.heap.size (.slice a8 ME.length c8) ME.length (flatE ME)).below hb9 (Nat.le_refl _)).set3_ (.inr (by omega)), below_set3 (hbu.out.trans ((hb8.mono (by omega)).trans (hb9.mono (by omega)))) (by omega)⟩
              replace hrel := hidI hrel
              replace hn10 := hidI hn10
              replace hBA := hidI hBA
              go_simp
              rw [← hn10.out]
              clear z0 z1 z2 fz
              refine hK.out _ _ ?_ (fun hHeld => ?_)
              · try dsimp only
                ((repeat' apply And.intro) <;> assumption)
              clear hK
              try simp only [Act.put, List.setIfInBounds_toArray, List.set_cons_zero, List.set_cons_succ]
              refine take_at 11 12 (v := ?_) rfl (by kernel_rfl) (by kernel_rfl) (by kernel_rfl) (by kernel_rfl) hpan (Or.inl ⟨by rfl, ?_⟩) (by assumption) ?_
              rotate_left
              · intro w hSw; (try dsimp only at hSw); go_simp; with_reducible rfl
              simp only [Act.put, List.setIfInBounds_toArray, List.set_cons_zero, List.set_cons_succ]
              refine wpAnyH_done (by kernel_rfl) ?_ _
              refine hnorm _ _ ?_
              clear hnorm hpan
              repeat clear hHeld
              try simp only [Exit.then]
              go_wp2_with fail
              go_meet
              exact ⟨_, _, _, _, _, rfl, rfl, hrel.out⟩
            refine AllReadyH.cons rfl (fun Kz hK => ?_) AllReadyH.nil
            rw [if_pos (by rfl)]
            go_simp
            obtain ⟨w8, hn9⟩ : ∃ z, z = u.alloc (.cells #[.int .i64 0, .int .i64 0, .slice none 0 0] 32) := ⟨_, rfl⟩
            have hb9 : Below u.heap.size u w8 := by rw [hn9]; exact (Below.refl _ _).alloc (Nat.le_refl _) _
            have hs9 : w8.heap.size = u.heap.size + 1 := by rw [hn9]; simp
            have hBA : w8.heap[u.heap.size]? = some (.cells #[.int .i64 0, .int .i64 0, .slice none 0 0] 32 (0, 0)) := by rw [hn9]; exact heap_alloc_new _ _
            replace y0 := below_cell y0 hb9 (by omega)
            replace y1 := below_cell y1 hb9 (by omega)
            replace y2 := below_cell y2 hb9 (by omega)
            replace y3 := below_cell y3 hb9 (by omega)
            replace y4 := below_cell y4 hb9 (by omega)
            rw [← hn9]
            replace hn9 := hidI hn9
            obtain ⟨BB, hBB⟩ : ∃ z, z = u.heap.size := ⟨_, rfl⟩
            rw [← hBB] at hBA ⊢
            have hBB2 : BB ≤ u.heap.size ∧ u.heap.size ≤ BB := by omega
            replace hBB := hidI hBB
            refine hK.out _ _ ?_ (fun hHeld => ?_)
            · try dsimp only
              ((repeat' apply And.intro) <;> assumption)
            clear hK
            try simp only [Act.put, List.setIfInBounds_toArray, List.set_cons_zero, List.set_cons_succ]
            refine wpAnyH_ready (rs := [5]) (by kernel_rfl) (by simp) ?_
            refine AllReadyH.cons rfl (fun Kz hK => ?_) AllReadyH.nil
            rw [if_pos (by rfl)]
            go_simp
            go_at_call 15
            (with_reducible refine (hcall.out w8 hb9).mono ?_)
            rintro e w9 ⟨a8, c8, rfl, hrow8, hb8⟩
            have hs8 := hb8.size
            rw [← hmm.out]
            replace y0 := below_cell y0 hb8 (by omega)
            replace y1 := below_cell y1 hb8 (by omega)
            replace y2 := below_cell y2 hb8 (by omega)
            replace y3 := below_cell y3 hb8 (by omega)
            replace y4 := below_cell y4 hb8 (by omega)
            have hBA9 := (hb8.block BB (by omega)).trans hBA
            replace hBA := hidI hBA
            clear hBA
            have hBA := hBA9
            clear hBA9
            refine hK.out _ _ ?_ (fun hHeld => ?_)
            · try dsimp only
              ((repeat' apply And.intro) <;> assumption)
            clear hK
            try simp only [Act.put, List.setIfInBounds_toArray, List.set_cons_zero, List.set_cons_succ]
            refine take_at 6 41 (v := ?_) rfl (by kernel_rfl) (by kernel_rfl) (by kernel_rfl) (by kernel_rfl) hpan (Or.inl ⟨by rfl, ?_⟩) (by assumption) ?_
            rotate_left
            · intro w hSw; (try dsimp only at hSw); go_simp; with_reducible rfl
            simp only [Act.put, List.setIfInBounds_toArray, List.set_cons_zero, List.set_cons_succ]
            refine take_at 7 48 (v := ?_) rfl (by kernel_rfl) (by kernel_rfl) (by kernel_rfl) (by kernel_rfl) hpan (Or.inl ⟨by rfl, ?_⟩) (by assumption) ?_
            rotate_left
            · intro w hSw; (try dsimp only at hSw); go_simp; with_reducible rfl
            simp only [Act.put, List.setIfInBounds_toArray, List.set_cons_zero, List.set_cons_succ]
            refine take_at 8 49 (v := ?_) rfl (by kernel_rfl) (by kernel_rfl) (by kernel_rfl) (by kernel_rfl) hpan (Or.inl ⟨by rfl, ?_⟩) (by assumption) ?_
            rotate_left
            · intro w hSw; (try dsimp only at hSw); go_simp; with_reducible rfl
            simp only [Act.put, List.setIfInBounds_toArray, List.set_cons_zero, List.set_cons_succ]
            refine wpAnyH_ready (rs := [10]) (by kernel_rfl) (by simp) ?_
            refine AllReadyH.cons rfl (fun Kz hK => ?_) AllReadyH.nil
            rw [if_pos (by rfl)]
            have z0 := cell_of_heap hBA 0
            have z1 := cell_of_heap hBA 1
            have z2 := cell_of_heap hBA 2
            have fz := fun j => frozen_of_row w9 BB j _ _ hBA
            simp at z0 z1 z2
            obtain ⟨w10, hn10⟩ : ∃ z, z = ((w9.setCell ⟨BB, 0, none⟩ (.int .i64 r)).setCell ⟨BB, 1, none⟩ (.int .i64 MS)).setCell ⟨BB, 2, none⟩ (.slice a8 mm c8) := ⟨_, rfl⟩
            replace y0 : w10.cell? ⟨X, 0, none⟩ = some (.int .i64 r) := by rw [hn10, World.cell?_of_block (heap_set3 (show X ≠ BB by omega))]; exact y0
            replace y1 : w10.cell? ⟨X, 1, none⟩ = some (.int .i64 sz) := by rw [hn10, World.cell?_of_block (heap_set3 (show X ≠ BB by omega))]; exact y1
            replace y2 : w10.cell? ⟨X, 2, none⟩ = some (.slice av m cv) := by rw [hn10, World.cell?_of_block (heap_set3 (show X ≠ BB by omega))]; exact y2
            replace y3 : w10.cell? ⟨b, off + i * 2, none⟩ = some (.int .i64 k) := by rw [hn10, World.cell?_of_block (heap_set3 (show b ≠ BB by omega))]; exact y3
            replace y4 : w10.cell? ⟨b, off + i * 2 + 1, none⟩ = some (.int .i64 d) := by rw [hn10, World.cell?_of_block (heap_set3 (show b ≠ BB by omega))]; exact y4
            have hrel : BoxRel wb r MS ME BB w8.heap.size w9.heap.size a8 c8 w10 := by
              rw [hn10]
              rw [hmm.out]
              exact ⟨by omega, by rw [size_set3]; omega, set3 hBA _ _ _, by omega, by rw [size_set3]; exact Nat.le_refl _, by omega, .inl (by omega), hrow8.set3_ (.inl (by omega)), below_set3 (hbu.out.trans ((hb9.mono (by omega)).trans (hb8.mono (by omega)))) (by omega)⟩
            replace hrel := hidI hrel
            replace hn10 := hidI hn10
            replace hBA := hidI hBA
            go_simp
            rw [← hn10.out]
            clear z0 z1 z2 fz
            refine hK.out _ _ ?_ (fun hHeld => ?_)
            · try dsimp only
              ((repeat' apply And.intro) <;> assumption)
            clear hK
            try simp only [Act.put, List.setIfInBounds_toArray, List.set_cons_zero, List.set_cons_succ]
            refine take_at 11 12 (v := ?_) rfl (by kernel_rfl) (by kernel_rfl) (by kernel_rfl) (by kernel_rfl) hpan (Or.inl ⟨by rfl, ?_⟩) (by assumption) ?_
            rotate_left
            · intro w hSw; (try dsimp only at hSw); go_simp; with_reducible rfl
            simp only [Act.put, List.setIfInBounds_toArray, List.set_cons_zero, List.set_cons_succ]
            refine wpAnyH_done (by kernel_rfl) ?_ _
            refine hnorm _ _ ?_
            clear hnorm hpan
            repeat clear hHeld
            try simp only [Exit.then]
            go_wp2_with fail
            go_meet
            exact ⟨_, _, _, _, _, rfl, rfl, hrel.out⟩
          obtain ⟨w9, rfl⟩ : ∃ z, z = wc := ⟨_, rfl⟩
          obtain ⟨BB, lo, hi', a8, c8, rfl, rfl, hrel⟩ := hcut
          obtain ⟨r1, r2, r3, r4, r5, r6, r7, r8, r9⟩ := hrel
          have hrel : BoxRel wb r MS ME BB lo hi' a8 c8 w9 := ⟨r1, r2, r3, r4, r5, r6, r7, r8, r9⟩
          rw [← hmm.out] at r3
          have b0 := cell_of_heap r3 0
          have b1 := cell_of_heap r3 1
          have b2 := cell_of_heap r3 2
          simp at b0 b1 b2
          have hX9 : w9.heap[X]? = _ := (r9.block X hXb).trans hPb.out.1
          have v0 := cell_of_heap hX9 0
          have v1 := cell_of_heap hX9 1
          have v2 := cell_of_heap hX9 2
          have fv := fun j => frozen_of_row w9 X j _ _ hX9
          simp at v0 v1 v2
          have hb9 : Below w.heap.size w w9 := hbrb.out.trans (r9.mono hbrb.out.size)
          have hb19 : Below w1.heap.size w1 w9 := hbrb1.out.trans (r9.mono hbrb1.out.size)
          have q0 := below_cell g0'.out (hkb.out.trans (r9.mono (by omega))) (by omega)
          have q1 := below_cell g1'.out (hkb.out.trans (r9.mono (by omega))) (by omega)
          have q2 := below_cell g2'.out (hkb.out.trans (r9.mono (by omega))) (by omega)
          have hst9 : Hid (∃ v', MSt (((w9.setCell ⟨X, 0, none⟩ (.int .i64 r)).setCell ⟨X, 1, none⟩ (.int .i64 MS)).setCell ⟨X, 2, none⟩ (.slice a8 mm c8)) X w1.heap.size r (reSt r s es l (i + 1)).1 v' (reSt r s es l (i + 1)).2) := hidI ⟨.slice a8 mm c8, by
            have h1 := hPb.out.stored hXb (by omega) hrel
            rw [hnx3.out, hmm.out]; exact h1⟩
          have hk9 : Hid (Below X w3 (((w9.setCell ⟨X, 0, none⟩ (.int .i64 r)).setCell ⟨X, 1, none⟩ (.int .i64 MS)).setCell ⟨X, 2, none⟩ (.slice a8 mm c8))) := hidI ((((hkb.out.trans (r9.mono (by omega))).setCell (p := ⟨X, 0, none⟩) (Nat.le_refl _) _).setCell (p := ⟨X, 1, none⟩) (Nat.le_refl _) _).setCell (p := ⟨X, 2, none⟩) (Nat.le_refl _) _)
          have hsb9 : Hid (-9223372036854775808 ≤ (reSt r s es l (i + 1)).1 ∧ (reSt r s es l (i + 1)).1 ≤ 9223372036854775807) := hidI (by rw [hnx3.out]; exact hMSb.out)
          have hno : (OB && C) = false → ZB = false ∧ ZS = s ∧ ZE = es := fun hf => hnall.out (reAll_not hlt (by rw [hre.out]; exact hf))
          replace hrel := hidI hrel
          replace r3 := hidI r3
          replace r8 := hidI r8
          replace r9 := hidI r9
          replace hX9 := hidI hX9
          clear x0 x1 x2 c0 c1 y0 y1 y2 y3 y4
          cases OB with
          | false =>
            have h0_ := hno rfl
            have hbx0 := hb9
            have hbx1 := hb19
            replace hno := hidI hno
            replace hre := hidI hre.out
            replace hOB := hidI hOB.out
            replace hb9 := hidI hb9
            replace hb19 := hidI hb19
            clear b0 b1 b2 v0 v1 v2 fv
            obtain ⟨hZB0, hZS0, hZE0⟩ := h0_
            have hcc := hcopy.out w9 ((h.out.below hbx0).mono (hbx0).size)
            have hsW : w1.heap.size ≤ w9.heap.size := (hbx1).size
            have hbWx := hbx0
            have hbWy := hbx1
            replace hZS0 := hidI hZS0
            replace hZE0 := hidI hZE0
            replace hZB0 := hidI hZB0
            replace hbWx := hidI hbWx
            replace hbWy := hidI hbWy
            go_wp2_with fail
            refine hcc.mono ?_
            rintro e w5 ⟨ca, cc, rfl, hrow, hb5⟩
            rw [← hn.out]
            rw [← hn.out] at hrow
            clear hcc
            have hb15 : Below w.heap.size w w5 := hbWx.out.trans (hb5.mono hbWx.out.size)
            have hR5 := hRk.out w5 (hbWy.out.trans (hb5.mono hsW))
            have hs25 := hb5.size
            have y0 := cell_of_heap hR5 0
            have y1 := cell_of_heap hR5 1
            have y2 := cell_of_heap hR5 2
            have f2 := fun j => frozen_of_row w5 (w.heap.size + 1) j _ _ hR5
            simp at y0 y1 y2
            have hfin : LwGraphBool w r s es false (.returned (.tuple #[.agg #[.int .i64 r, .int .i64 s, .slice ca n cc], .bool false])) (((w5.setCell ⟨w.heap.size + 1, 0, none⟩ (.int .i64 r)).setCell ⟨w.heap.size + 1, 1, none⟩ (.int .i64 s)).setCell ⟨w.heap.size + 1, 2, none⟩ (.slice ca n cc)) := by
              have hrw := hrow
              rw [hn.out] at hrw
              rw [hn.out]
              exact ⟨ca, cc, rfl, (RowS.set3_ hrw (.inl (by omega))).wide (by omega) (by rw [size_set3]; exact Nat.le_refl _), hend.out _ _ _ _ hb15⟩
            have hset := set3 hR5 (.int .i64 r) (.int .i64 s) (.slice ca n cc)
            replace hfin := hidI hfin
            replace hset := hidI hset
            replace hR5 := hidI hR5
            replace hrow := hidI hrow
            replace hb5 := hidI hb5
            replace hb15 := hidI hb15
            go_wp2
            (try simp only [Exit.inBlock, Exit.then])
            refine ret_cell2 (x := .bool false) rfl rfl rfl hset.out Try.underlying32 sizeGraph ?_
            rw [hZS0.out, hZE0.out, hZB0.out]
            exact hfin.out
          | true =>
          cases C with
          | false =>
            have h0_ := hno rfl
            have hbx0 := hb9
            have hbx1 := hb19
            replace hno := hidI hno
            replace hre := hidI hre.out
            replace hOB := hidI hOB.out
            replace hCF := hidI hCF.out
            replace hC := hidI hC.out
            replace hb9 := hidI hb9
            replace hb19 := hidI hb19
            clear b0 b1 b2 v0 v1 v2 fv
            obtain ⟨hZB0, hZS0, hZE0⟩ := h0_
            have hcc := hcopy.out w9 ((h.out.below hbx0).mono (hbx0).size)
            have hsW : w1.heap.size ≤ w9.heap.size := (hbx1).size
            have hbWx := hbx0
            have hbWy := hbx1
            replace hZS0 := hidI hZS0
            replace hZE0 := hidI hZE0
            replace hZB0 := hidI hZB0
            replace hbWx := hidI hbWx
            replace hbWy := hidI hbWy
            go_wp2_with fail
            refine hcc.mono ?_
            rintro e w5 ⟨ca, cc, rfl, hrow, hb5⟩
            rw [← hn.out]
            rw [← hn.out] at hrow
            clear hcc
            have hb15 : Below w.heap.size w w5 := hbWx.out.trans (hb5.mono hbWx.out.size)
            have hR5 := hRk.out w5 (hbWy.out.trans (hb5.mono hsW))
            have hs25 := hb5.size
            have y0 := cell_of_heap hR5 0
            have y1 := cell_of_heap hR5 1
            have y2 := cell_of_heap hR5 2
            have f2 := fun j => frozen_of_row w5 (w.heap.size + 1) j _ _ hR5
            simp at y0 y1 y2
            have hfin : LwGraphBool w r s es false (.returned (.tuple #[.agg #[.int .i64 r, .int .i64 s, .slice ca n cc], .bool false])) (((w5.setCell ⟨w.heap.size + 1, 0, none⟩ (.int .i64 r)).setCell ⟨w.heap.size + 1, 1, none⟩ (.int .i64 s)).setCell ⟨w.heap.size + 1, 2, none⟩ (.slice ca n cc)) := by
              have hrw := hrow
              rw [hn.out] at hrw
              rw [hn.out]
              exact ⟨ca, cc, rfl, (RowS.set3_ hrw (.inl (by omega))).wide (by omega) (by rw [size_set3]; exact Nat.le_refl _), hend.out _ _ _ _ hb15⟩
            have hset := set3 hR5 (.int .i64 r) (.int .i64 s) (.slice ca n cc)
            replace hfin := hidI hfin
            replace hset := hidI hset
            replace hR5 := hidI hR5
            replace hrow := hidI hrow
            replace hb5 := hidI hb5
            replace hb15 := hidI hb15
            go_wp2
            (try simp only [Exit.inBlock, Exit.then])
            refine ret_cell2 (x := .bool false) rfl rfl rfl hset.out Try.underlying32 sizeGraph ?_
            rw [hZS0.out, hZE0.out, hZB0.out]
            exact hfin.out
          | true =>
            have hra2 : Hid (reAll r s es l (i + 1) = true) := hidI (by rw [reAll, hra.out, hre.out]; rfl)
            replace hno := hidI hno
            replace hre := hidI hre.out
            replace hOB := hidI hOB.out
            replace hCF := hidI hCF.out
            replace hC := hidI hC.out
            replace hb9 := hidI hb9
            replace hb19 := hidI hb19
            clear q0 q1 q2
            go_wp2
            go_roundg (nl - (i + 1))
            case rel => exact ⟨i + 1, by have := hi.out; omega, by go_num, hra2, hst9, hk9, hsb9⟩
            case measure => have := hi.out; omega
    · obtain rfl : i = nl := by have := hi.out; omega
      have hii : ¬ (i : Int) < (i : Int) := by omega
      obtain ⟨hZ0, hZ1, hZ2⟩ := hall.out hra.out
      rw [← hT.out] at hZ1 hZ2
      simp only at hZ1 hZ2
      obtain ⟨u, hu⟩ : ∃ z, z = wr.drew := ⟨_, rfl⟩
      have hbu : Below wr.heap.size wr u := by rw [hu]; exact below_dn (Below.refl _ _) 1
      have hsu : u.heap.size = wr.heap.size := by rw [hu]; rfl
      have y0 := below_cell x0 hbu hXr
      have y1 := below_cell x1 hbu hXr
      have y2 := below_cell x2 hbu hXr
      have y3 := below_cell (below_cell g0'.out hkb.out (by omega)) hbu (by omega)
      have y4 := below_cell (below_cell g1'.out hkb.out (by omega)) hbu (by omega)
      have y5 := below_cell (below_cell g2'.out hkb.out (by omega)) hbu (by omega)
      have hbur : Below w.heap.size w u := hbr.trans (hbu.mono hbr.size)
      have his := hisx.out u ((h.out.below hbur).mono hbur.size)
      have hPu : MSt u X w1.heap.size r sz (.slice av E.length cv) E := hP.below hXr hbu
      have hgl : w.heap.size < u.heap.size := by omega
      have hXu : X < u.heap.size := by omega
      replace hu := hidI hu
      replace hbu := hidI hbu
      replace hbur := hidI hbur
      replace hPu := hidI hPu
      replace hP := hidI hP
      replace hZ0 := hidI hZ0
      replace hZ1 := hidI hZ1
      replace hZ2 := hidI hZ2
      replace hbr := hidI hbr
      go_wp2_with fail
      refine hideQ (fun _ _ d _ _ h => by cases d <;> exact h) (fun Q' hnorm hpan => ?_)
      refine wp_region_held_drew (S := fun z => z.cell? ⟨X, 0, none⟩ = some (.int .i64 r) ∧ z.cell? ⟨X, 1, none⟩ = some (.int .i64 sz) ∧ z.cell? ⟨X, 2, none⟩ = some (.slice av m cv) ∧ z.cell? ⟨w.heap.size, 0, none⟩ = some (.int .i64 r) ∧ z.cell? ⟨w.heap.size, 1, none⟩ = some (.int .i64 s) ∧ z.cell? ⟨w.heap.size, 2, none⟩ = some (.slice a n cap)) (by kernel_rfl) ?_ (fun hHeld => ?_)
      · try dsimp only
        rw [← hu.out]
        ((repeat' apply And.intro) <;> assumption)
      rw [← hu.out] at hHeld ⊢
      refine take_at 0 59 (v := ?_) rfl (by kernel_rfl) (by kernel_rfl) (by kernel_rfl) (by kernel_rfl) hpan (Or.inl ⟨by rfl, ?_⟩) (by assumption) ?_
      rotate_left
      · intro w hSw; (try dsimp only at hSw); go_simp; with_reducible rfl
      simp only [Act.put, List.setIfInBounds_toArray, List.set_cons_zero, List.set_cons_succ]
      refine take_at 1 60 (v := ?_) rfl (by kernel_rfl) (by kernel_rfl) (by kernel_rfl) (by kernel_rfl) hpan (Or.inl ⟨by rfl, ?_⟩) (by assumption) ?_
      rotate_left
      · intro w hSw; (try dsimp only at hSw); go_simp; with_reducible rfl
      simp only [Act.put, List.setIfInBounds_toArray, List.set_cons_zero, List.set_cons_succ]
      refine wpAnyH_ready (rs := [2]) (by kernel_rfl) (by simp) ?_
      refine AllReadyH.cons rfl (fun Kz hK => ?_) AllReadyH.nil
      rw [if_pos (by rfl)]
      go_simp
      go_at_call 37
      (with_reducible refine his.mono ?_)
      rintro e w9 ⟨rfl, hb9⟩
      have hs9 := hb9.size
      replace y0 := below_cell y0 hb9 (by omega)
      replace y1 := below_cell y1 hb9 (by omega)
      replace y2 := below_cell y2 hb9 (by omega)
      replace y3 := below_cell y3 hb9 (by omega)
      replace y4 := below_cell y4 hb9 (by omega)
      replace y5 := below_cell y5 hb9 (by omega)
      have hb09 : Below w.heap.size w w9 := hbur.out.trans (hb9.mono hbur.out.size)
      have hR9 := hRk.out w9 (hbr1.trans ((hbu.out.mono hbr1.size).trans (hb9.mono (by have := hbr1.size; omega))))
      have z0 := cell_of_heap hR9 0
      have z1 := cell_of_heap hR9 1
      have z2 := cell_of_heap hR9 2
      have f2 := fun j => frozen_of_row w9 (w.heap.size + 1) j _ _ hR9
      simp at z0 z1 z2
      have hfin := mst_fin (w := w) (w9 := w9) (X := X) (R := w.heap.size + 1) (base := w1.heap.size) (cap := cv) (r := r) (s' := sz) (E := E) (b := B) (a := av) (by omega) (by omega) hb09 (hPu.out.below hXu hb9)
      rw [← hm.out] at hfin
      obtain ⟨w10, hn10⟩ : ∃ z, z = ((w9.setCell ⟨w.heap.size + 1, 0, none⟩ (.int .i64 r)).setCell ⟨w.heap.size + 1, 1, none⟩ (.int .i64 sz)).setCell ⟨w.heap.size + 1, 2, none⟩ (.slice av m cv) := ⟨_, rfl⟩
      have hset := set3 hR9 (.int .i64 r) (.int .i64 sz) (.slice av m cv)
      rw [← hn10] at hfin hset
      have t0 : w10.cell? ⟨X, 0, none⟩ = some (.int .i64 r) := by rw [hn10, World.cell?_of_block (heap_set3 (show X ≠ w.heap.size + 1 by omega))]; exact y0
      have t1 : w10.cell? ⟨X, 1, none⟩ = some (.int .i64 sz) := by rw [hn10, World.cell?_of_block (heap_set3 (show X ≠ w.heap.size + 1 by omega))]; exact y1
      have t2 : w10.cell? ⟨X, 2, none⟩ = some (.slice av m cv) := by rw [hn10, World.cell?_of_block (heap_set3 (show X ≠ w.heap.size + 1 by omega))]; exact y2
      have t3 : w10.cell? ⟨w.heap.size, 0, none⟩ = some (.int .i64 r) := by rw [hn10, World.cell?_of_block (heap_set3 (show w.heap.size ≠ w.heap.size + 1 by omega))]; exact y3
      have t4 : w10.cell? ⟨w.heap.size, 1, none⟩ = some (.int .i64 s) := by rw [hn10, World.cell?_of_block (heap_set3 (show w.heap.size ≠ w.heap.size + 1 by omega))]; exact y4
      have t5 : w10.cell? ⟨w.heap.size, 2, none⟩ = some (.slice a n cap) := by rw [hn10, World.cell?_of_block (heap_set3 (show w.heap.size ≠ w.heap.size + 1 by omega))]; exact y5
      replace hfin := hidI hfin
      replace hset := hidI hset
      replace hR9 := hidI hR9
      replace hn10 := hidI hn10
      replace hb09 := hidI hb09
      replace hb9 := hidI hb9
      refine hK.out _ _ ?_ (fun hHeld => ?_)
      · try dsimp only
        ((repeat' apply And.intro) <;> assumption)
      clear hK
      try simp only [Act.put, List.setIfInBounds_toArray, List.set_cons_zero, List.set_cons_succ]
      refine wpAnyH_ready (rs := [3]) (by kernel_rfl) (by simp) ?_
      refine AllReadyH.cons rfl (fun Kz hK => ?_) AllReadyH.nil
      rw [if_pos (by rfl)]
      go_simp
      rw [← hn10.out]
      clear y0 y1 y2 y3 y4 y5
      refine hK.out _ _ ?_ (fun hHeld => ?_)
      · try dsimp only
        ((repeat' apply And.intro) <;> assumption)
      clear hK
      try simp only [Act.put, List.setIfInBounds_toArray, List.set_cons_zero, List.set_cons_succ]
      refine take_at 4 5 (v := ?_) rfl (by kernel_rfl) (by kernel_rfl) (by kernel_rfl) (by kernel_rfl) hpan (Or.inl ⟨by rfl, ?_⟩) (by assumption) ?_
      rotate_left
      · intro w hSw; (try dsimp only at hSw); go_simp; with_reducible rfl
      simp only [Act.put, List.setIfInBounds_toArray, List.set_cons_zero, List.set_cons_succ]
      refine wpAnyH_done (by kernel_rfl) ?_ _
      refine hnorm _ _ ?_
      clear hnorm hpan
      repeat clear hHeld
      try simp only [Exit.then]
      clear t0 t1 t2 t3 t4 t5 z0 z1 z2 f2 x0 x1 x2 his
      go_wp2
      (try simp only [Exit.inBlock, Exit.then])
      refine ret_cell2 (x := .bool B) rfl rfl rfl hset.out Try.underlying32 sizeGraph ?_
      rw [hZ0.out, hZ1.out, hZ2.out]
      exact hfin.out
end Go.Proofs.Ytdeofaimgldklaa
