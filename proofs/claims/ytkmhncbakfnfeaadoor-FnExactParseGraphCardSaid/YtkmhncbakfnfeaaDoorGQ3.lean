/- Graphs, the model: ParseGraph. -/
import Derived.Test.YtkmhncbakfnfeaaDoorGQ2
import Derived.Test.YtkmhncbakfnfeaaDoorWGF
import Derived.Test.YtkmhncbakfnfeaaDoorGS10
import Derived.Deep.Cut
import Derived.Deep.CutRange
namespace Go.Proofs.YtkmhncbakfnfeaaDoor
open Go.RowKit
set_option linter.unusedVariables false
set_option linter.unusedSimpArgs false
set_option maxRecDepth 100000

theorem cutG_parts (l : List UInt8) : ∀ pre, ∀ x ∈ cutG pre l, x.length ≤ pre.length + l.length := by
  induction l with
  | nil => intro pre x hx; simp [cutG] at hx; subst hx; simp
  | cons c l ih =>
    intro pre x hx
    unfold cutG at hx
    split at hx
    · rcases List.mem_cons.1 hx with rfl | hx
      · simp
      · have := ih [] x hx; simp at this ⊢; omega
    · have := ih (pre ++ [c]) x hx; simp at this ⊢; omega
theorem cutG_ne (l : List UInt8) : ∀ pre, cutG pre l ≠ [] := by
  induction l with
  | nil => intro pre; simp [cutG]
  | cons c l ih =>
    intro pre
    unfold cutG
    split
    · simp
    · exact ih _
def readS (l : List UInt8) : Ed := readG isLow numS [] l
/-- The graph of a text, as the model reads it: rank, size, edges. -/
def candR (T : List (List UInt8)) : Int := numS (T.getD 0 [])
def candZ (T : List (List UInt8)) : Int := if 1 < T.length then numS (T.getD 1 []) else 0
def candE (T : List (List UInt8)) : List Ed := (T.drop 2).map readS
def parB (s : List UInt8) : Bool := decide (s ≠ [] ∧ fmtGr (candR (cutG [] s)) (candZ (cutG [] s)) (candE (cutG [] s)) = s)
def parR (s : List UInt8) : Int := if parB s = true then candR (cutG [] s) else 0
def parZ (s : List UInt8) : Int := if parB s = true then candZ (cutG [] s) else 0
def parE (s : List UInt8) : List Ed := if parB s = true then candE (cutG [] s) else []
theorem parseI_bd (l : List UInt8) : -9223372036854775808 ≤ (parseI l).1 ∧ (parseI l).1 ≤ 9223372036854775807 := by
  unfold parseI
  split
  · have := pv_small (l := l.take 11) (by rw [List.length_take]; omega)
    unfold pnum
    simp only
    split <;> omega
  · simp
theorem numS_bd (l : List UInt8) : -9223372036854775808 ≤ numS l ∧ numS l ≤ 9223372036854775807 := by
  have := parseI_bd l
  unfold numS
  split <;> omega
theorem numP_bd (l : List UInt8) : -9223372036854775808 ≤ numP l ∧ numP l ≤ 9223372036854775807 := parseI_bd l
theorem readG_in {isL : UInt8 → Bool} {num : List UInt8 → Int} (hn : ∀ l, -9223372036854775808 ≤ num l ∧ num l ≤ 9223372036854775807) (l : List UInt8) : ∀ pre,
    (-9223372036854775808 ≤ (readG isL num pre l).1 ∧ (readG isL num pre l).1 ≤ 9223372036854775807) ∧ (-9223372036854775808 ≤ (readG isL num pre l).2.1 ∧ (readG isL num pre l).2.1 ≤ 9223372036854775807) ∧ (-9223372036854775808 ≤ (readG isL num pre l).2.2 ∧ (readG isL num pre l).2.2 ≤ 9223372036854775807) := by
  induction l with
  | nil => intro pre; simp [readG]
  | cons c l ih =>
    intro pre
    unfold readG
    split
    · have := unch_bd c
      exact ⟨hn _, by simp only; omega, hn _⟩
    · exact ih _
theorem map_readG_in {isL : UInt8 → Bool} {num : List UInt8 → Int} (hn : ∀ l, -9223372036854775808 ≤ num l ∧ num l ≤ 9223372036854775807) (T : List (List UInt8)) : InE (T.map (readG isL num [])) := by
  intro e he
  obtain ⟨l, _, rfl⟩ := List.mem_map.1 he
  exact readG_in hn l []
/-- A row of the call's own, a cell written in another block. -/
theorem OwnsS.other {T : TypeId} {sz n base b j : Nat} {w : World} {v x : Value} {zs : List Int} (h : OwnsS T sz w base v n zs) (hb : b < base) : OwnsS T sz (w.setCell ⟨b, j, none⟩ x) base v n zs := by
  obtain ⟨hlen, ⟨rfl, hn⟩ | ⟨g, cap, cur, rfl, hg, hh, hr⟩⟩ := h
  · exact ⟨hlen, .inl ⟨rfl, hn⟩⟩
  · refine ⟨hlen, .inr ⟨g, cap, cur, rfl, hg, ?_, hr⟩⟩
    rw [Below.heap_setCell _ _ _ _ (show g ≠ b by omega)]
    exact hh
set_option maxHeartbeats 6400000 in
theorem specParG (s : ByteArray) (w : World) (hs : s.size ≤ 1048576) :
    Calls Tryd.prog 10 #[.string s] w (LwGraphBool w (parR s.data.toList) (parZ s.data.toList) (parE s.data.toList) (parB s.data.toList)) := by
  obtain ⟨L, hL⟩ : ∃ L, L = s.data.toList := ⟨_, rfl⟩
  have hlen : L.length = s.size := by rw [hL]; rfl
  rw [← hL]
  obtain ⟨T, hT⟩ : ∃ T, T = cutG [] L := ⟨_, rfl⟩
  have hTl : T.length ≤ s.size + 1 := by rw [hT, ← hlen]; exact cutG_length L []
  have hT0 : T ≠ [] := by rw [hT]; exact cutG_ne L []
  have hTp : ∀ x ∈ T, (toB x).size ≤ 1048576 := by
    intro x hx
    rw [hT] at hx
    have := cutG_parts L [] x hx
    have h2 : (toB x).size = x.length := by simp [toB, ByteArray.size]
    rw [h2]
    simp at this
    omega
  have hTpos : 0 < T.length := List.length_pos_iff.2 hT0
  obtain ⟨w1, hw1⟩ : ∃ w1, w1 = w.alloc (.cells #[.int .i64 0, .int .i64 0, .slice none 0 0] 29) := ⟨_, rfl⟩
  have hb1 : Below w.heap.size w w1 := by rw [hw1]; exact (Below.refl _ _).alloc (Nat.le_refl _) _
  have hs1 : w.heap.size < w1.heap.size := by rw [hw1]; simp
  have hk1 := heap_alloc_new w (.cells #[.int .i64 0, .int .i64 0, .slice none 0 0] 29)
  rw [← hw1] at hk1
  have hcut := l4Cut_any s w1 hs
  rw [← hL, ← hT] at hcut
  obtain ⟨n0, hn0⟩ : ∃ n0, n0 = candR T := ⟨_, rfl⟩
  obtain ⟨n1, hn1⟩ : ∃ n1, n1 = candZ T := ⟨_, rfl⟩
  obtain ⟨E, hE⟩ : ∃ E, E = candE T := ⟨_, rfl⟩
  obtain ⟨PB, hPB⟩ : ∃ PB, PB = parB L := ⟨_, rfl⟩
  have hR : parR L = if PB = true then n0 else 0 := by unfold parR; rw [← hPB, hn0, hT]
  have hZ : parZ L = if PB = true then n1 else 0 := by unfold parZ; rw [← hPB, hn1, hT]
  have hEE : parE L = if PB = true then E else [] := by unfold parE; rw [← hPB, hE, hT]
  have hPB2 : PB = decide (L ≠ [] ∧ fmtGr n0 n1 E = L) := by rw [hPB, hn0, hn1, hE, hT]; rfl
  obtain ⟨QR, hQR⟩ : ∃ q, q = parR L := ⟨_, rfl⟩
  obtain ⟨QZ, hQZ⟩ : ∃ q, q = parZ L := ⟨_, rfl⟩
  obtain ⟨QE, hQE⟩ : ∃ q, q = parE L := ⟨_, rfl⟩
  rw [← hQR, ← hQZ, ← hQE, ← hPB]
  rw [hR] at hQR
  rw [hZ] at hQZ
  rw [hEE] at hQE
  clear hR hZ hEE
  replace hQR := hidI hQR
  replace hQZ := hidI hQZ
  replace hQE := hidI hQE
  replace hPB := hidI hPB
  replace hPB2 := hidI hPB2
  replace hL := hidI hL
  replace hlen := hidI hlen
  replace hT := hidI hT
  replace hT0 := hidI hT0
  replace hTp := hidI hTp
  replace hn0 := hidI hn0
  replace hn1 := hidI hn1
  replace hE := hidI hE
  replace hw1 := hidI hw1
  replace hk1 := hidI hk1
  go_enter Tryd.func10, Tryd.ntmps10
  go_wp2_with fail
  rw [← hw1.out]
  refine hcut.mono ?_
  rintro e w2 ⟨v2, rfl, hown2, hb2⟩
  obtain ⟨g, cp, rfl, hcp, hlg, hgs, hcell⟩ := hown2.some (by simpa using hT0.out)
  obtain ⟨tn, htn⟩ : ∃ tn, tn = T.length := ⟨_, rfl⟩
  have htm : (T.map toB).length = tn := by rw [List.length_map, htn]
  rw [htm] at hcp ⊢
  have hpart : ∀ j, j < T.length → w2.cell? ⟨g, 0 + j, none⟩ = some (.string (toB (T.getD j []))) := by
    intro j hj
    refine hcell j _ ?_
    rw [List.getElem?_map, List.getElem?_eq_getElem hj, List.getD_eq_getElem?_getD, List.getElem?_eq_getElem hj]
    rfl
  have hget : ∀ j, j < T.length → T.getD j [] ∈ T := by
    intro j hj
    rw [List.getD_eq_getElem?_getD, List.getElem?_eq_getElem hj]
    exact List.getElem_mem hj
  have hp0 := hpart 0 hTpos
  have hnum0 := l4Num_any (toB (T.getD 0 [])) w2 (hTp.out _ (hget 0 hTpos))
  rw [toB_list] at hnum0
  have hc0 : numS (T.getD 0 []) = n0 := hn0.out.symm
  rw [hc0] at hnum0
  rw [Nat.add_zero] at hp0
  obtain ⟨B0, hB0⟩ : ∃ B0, B0 = toB (T.getD 0 []) := ⟨_, rfl⟩
  rw [← hB0] at hp0 hnum0
  have htpos : (0 : Int) < (tn : Int) := by omega
  have htn1 : tn ≤ 1048577 := by omega
  have hget2 : ∀ j, j < tn → T.getD j [] ∈ T := fun j hj => hget j (by omega)
  clear hget
  replace hget2 := hidI hget2
  replace hpart := hidI hpart
  replace htn := hidI htn
  replace hcell := hidI hcell
  replace hown2 := hidI hown2
  replace htm := hidI htm
  replace hB0 := hidI hB0
  replace hc0 := hidI hc0
  clear hcut
  go_wp2_with fail
  refine hnum0.mono ?_
  rintro e w3 ⟨rfl, hb3⟩
  clear hnum0 hp0
  obtain ⟨w4, hw4⟩ : ∃ w4, w4 = w3.alloc (.cells #[.int .i64 n0, .int .i64 0, .slice none 0 0] 29) := ⟨_, rfl⟩
  have hh4 := heap_alloc_new w3 (.cells #[.int .i64 n0, .int .i64 0, .slice none 0 0] 29)
  rw [← hw4] at hh4
  have hb4 : Below w3.heap.size w3 w4 := by rw [hw4]; exact (Below.refl _ _).alloc (Nat.le_refl _) _
  have hs4 : w4.heap.size = w3.heap.size + 1 := by rw [hw4]; simp
  have hb24 : Below w2.heap.size w2 w4 := hb3.trans (hb4.mono hb3.size)
  replace hw4 := hidI hw4
  replace hs4 := hidI hs4
  have hg4 : g < w4.heap.size := by have := hb24.size; omega
  have hgw3 : g < w3.heap.size := by have := hb3.size; omega
  have hpart4 : Hid (∀ j, j < tn → ∀ wx, Below w3.heap.size w3 wx → wx.cell? ⟨g, j, none⟩ = some (.string (toB (T.getD j [])))) := hidI (by
    intro j hj wx hbx
    have h0 := hpart.out j (by have := htn.out; omega)
    rw [Nat.zero_add] at h0
    exact below_cell (below_cell h0 hb3 hgs) hbx hgw3)
  have hbz3 : Below w.heap.size w w3 := hb1.trans ((hb2.trans (hb3.mono hb2.size)).mono hb1.size)
  have hz3 : w3.heap[w.heap.size]? = some (.cells #[.int .i64 0, .int .i64 0, .slice none 0 0] 29 (0, 0)) := by rw [hb3.block _ (by have := hb2.size; omega), hb2.block _ hs1]; exact hk1.out
  have hltz : w.heap.size < w3.heap.size := by have := hb2.size; have := hb3.size; omega
  replace hbz3 := hidI hbz3
  replace hz3 := hidI hz3
  clear hb24
  replace hh4 := hidI hh4
  replace hb3 := hidI hb3
  go_upto_if 17 with fail
  rw [← hw4.out]
  go_cut [] from 17 to 22 (fun wx => wx.heap[w3.heap.size]? = some (.cells #[.int .i64 n0, .int .i64 n1, .slice none 0 0] 29 (0, 0)) ∧ w3.heap.size + 1 ≤ wx.heap.size ∧ Below w3.heap.size w3 wx)
  case first =>
    by_cases h1 : 1 < tn
    · have hc1 : numS (T.getD 1 []) = n1 := by rw [hn1.out]; unfold candZ; rw [if_pos (by have := htn.out; omega)]
      have hnum1 := l4Num_any (toB (T.getD 1 [])) w4 (hTp.out _ (hget2.out 1 (by omega)))
      rw [toB_list, hc1] at hnum1
      have hp1 := hpart4.out 1 (by omega) w4 hb4
      obtain ⟨B1, hB1⟩ : ∃ B1, B1 = toB (T.getD 1 []) := ⟨_, rfl⟩
      rw [← hB1] at hnum1 hp1
      have h1i : (1 : Int) < (tn : Int) := by omega
      replace hB1 := hidI hB1
      replace hc1 := hidI hc1
      go_wp2_with fail
      refine hnum1.mono ?_
      rintro e w5 ⟨rfl, hb5⟩
      have hh5 : w5.heap[w3.heap.size]? = some (.cells #[.int .i64 n0, .int .i64 0, .slice none 0 0] 29 (0, 0)) := by rw [hb5.block _ (by have := hs4.out; omega)]; exact hh4.out
      have z0 := cell_of_heap hh5 0
      have z1 := cell_of_heap hh5 1
      have z2 := cell_of_heap hh5 2
      have fz := fun j => frozen_of_row w5 w3.heap.size j _ _ hh5
      simp at z0 z1 z2
      have hset := heap_setCell_same w5 w3.heap.size 1 _ 29 (.int .i64 n1) hh5
      simp at hset
      have hb35 := (hb4.trans (hb5.mono hb4.size)).setCell (p := ⟨w3.heap.size, 1, none⟩) (Nat.le_refl _) (.int .i64 n1)
      have hsz5 : w3.heap.size + 1 ≤ (w5.setCell ⟨w3.heap.size, 1, none⟩ (.int .i64 n1)).heap.size := by simp [World.setCell]; have := hs4.out; have := hb5.size; omega
      replace hset := hidI hset
      replace hb35 := hidI hb35
      replace hsz5 := hidI hsz5
      replace hh5 := hidI hh5
      clear hp1 hnum1
      go_wp2
      go_meet
      exact ⟨hset.out, hsz5.out, hb35.out⟩
    · have hc1 : n1 = 0 := by rw [hn1.out]; unfold candZ; rw [if_neg (by have := htn.out; omega)]
      have h1i : decide ((1 : Int) < (tn : Int)) = false := by simp; omega
      have h1j : ¬ (1 : Int) < (tn : Int) := by omega
      subst hc1
      have hs44 := hs4.out
      replace hh4 := hh4
      go_wp2
      go_meet
      exact ⟨hh4.out, by omega, hb4⟩
  case rest =>
  obtain ⟨hk5, hsz5, hb5⟩ := hcut
  have hown5 : OwnsE wc (w3.heap.size + 1) (.slice none 0 0) [] := OwnsS.nil _ _
  replace hk5 := hidI hk5
  replace hb5 := hidI hb5
  replace hsz5 := hidI hsz5
  replace hown5 := hidI hown5
  clear hb4
  go_wp2
  go_loopg [6] tn (fun g i wr => ∃ (k : Nat) (a : Option Addr) (m c : Nat), k + g = tn ∧ (k + 2 ≤ tn ∨ k = 0) ∧ i = .int .i64 ((k : Int) + 2) ∧ Hid (wr.heap[w3.heap.size]? = some (.cells #[.int .i64 n0, .int .i64 n1, .slice a m c] 29 (0, 0))) ∧ Hid (OwnsE wr (w3.heap.size + 1) (.slice a m c) (((T.drop 2).take k).map readS)) ∧ Hid (w3.heap.size + 1 ≤ wr.heap.size) ∧ Hid (Below w3.heap.size w3 wr))
  case atStart => exact ⟨0, none, 0, 0, by omega, .inr rfl, rfl, hk5, hown5, hsz5, hb5⟩
  case round =>
    clear hk5 hown5 hsz5 hb5
    obtain ⟨k, a, m, c, hk, hk2, rfl, hbox, hown, hsz, hb⟩ := hrel
    have hszz := hsz.out
    have q0 := cell_of_heap hbox.out 0
    have q1 := cell_of_heap hbox.out 1
    have q2 := cell_of_heap hbox.out 2
    simp at q0 q1 q2
    by_cases hlt : k + 2 < tn
    · have hpk := hpart4.out (k + 2) (by omega) wr hb.out
      have hr := l4Read_any (toB (T.getD (k + 2) [])) wr (hTp.out _ (hget2.out (k + 2) (by omega)))
      rw [toB_list] at hr
      obtain ⟨ed, hed⟩ : ∃ ed, ed = readG isLow numS [] (T.getD (k + 2) []) := ⟨_, rfl⟩
      rw [← hed] at hr
      obtain ⟨ef, el, et⟩ := ed
      have hnx : ((T.drop 2).take (k + 1)).map readS = ((T.drop 2).take k).map readS ++ [(ef, el, et)] := by
        have hkl : k < (T.drop 2).length := by rw [List.length_drop]; have := htn.out; omega
        rw [List.take_succ_eq_append_getElem hkl, List.map_append]
        congr 1
        rw [List.getElem_drop, hed]
        unfold readS
        rw [List.getD_eq_getElem?_getD, show k + 2 = 2 + k by omega, List.getElem?_eq_getElem (by have := htn.out; omega)]
        rfl
      obtain ⟨Bk, hBk⟩ : ∃ Bk, Bk = toB (T.getD (k + 2) []) := ⟨_, rfl⟩
      rw [← hBk] at hpk hr
      obtain ⟨X, hX⟩ : ∃ X, X = ((T.drop 2).take k).map readS := ⟨_, rfl⟩
      have hXl : X.length ≤ 1000000000 := by rw [hX]; simp; have := htn.out; omega
      rw [← hX] at hown hnx
      have hki : (k : Int) + 2 < (tn : Int) := by omega
      have hk0 : (0 : Int) ≤ (k : Int) + 2 := by omega
      have htk : ((k : Int) + 2).toNat = k + 2 := by omega
      replace hX := hidI hX
      replace hBk := hidI hBk
      replace hed := hidI hed
      replace hnx := hidI hnx
      replace hk := hidI hk
      clear hk2
      go_wp2_with fail
      refine hr.mono ?_
      rintro e w6 ⟨rfl, hb6⟩
      clear hr hpk
      have hbox6 : w6.heap[w3.heap.size]? = some (.cells #[.int .i64 n0, .int .i64 n1, .slice a m c] 29 (0, 0)) := by rw [hb6.block _ (by omega)]; exact hbox.out
      have hbe := (Below.refl w6.heap.size w6).alloc (Nat.le_refl _) (.cells #[.int .i64 ef, .int .i64 el, .int .i64 et] 41)
      have hown6 : OwnsE (w6.alloc (.cells #[.int .i64 ef, .int .i64 el, .int .i64 et] 41)) (w3.heap.size + 1) (.slice a m c) X := (hown.out.later hb6 (Nat.le_refl _)).later hbe (Nat.le_refl _)
      have hs6 := hb6.size
      have y2' := cell_of_heap hbox6 2
      simp at y2'
      have y2 := below_cell y2' hbe (by omega)
      clear y2'
      have hbq : w3.heap.size + 1 ≤ (w6.alloc (.cells #[.int .i64 ef, .int .i64 el, .int .i64 et] 41)).heap.size := by simp; omega
      replace hown6 := hidI hown6
      replace hbe := hidI hbe
      replace hbox6 := hidI hbox6
      clear q0 q1 q2
      go_wp2_with (at_builtin; go_must (refine wpList_pushE (w0 := w6.alloc (.cells #[.int .i64 ef, .int .i64 el, .int .i64 et] 41)) rfl _ _ rfl (w3.heap.size + 1) _ X ef el et rfl (by rw [show (w6.alloc (.cells #[.int .i64 ef, .int .i64 el, .int .i64 et] 41)).heap.size = w6.heap.size + 1 by simp]; rfl) (by exact hown6.out) hXl hbq ?_))
      intro v7 w7 hown7 hb7
      obtain ⟨a7, m7, c7, rfl⟩ := hown7.form3
      have hbox7 : w7.heap[w3.heap.size]? = some (.cells #[.int .i64 n0, .int .i64 n1, .slice a m c] 29 (0, 0)) := by
        rw [hb7.block _ (by omega), heap_alloc_old _ _ (by omega)]; exact hbox6.out
      have z0 := cell_of_heap hbox7 0
      have z1 := cell_of_heap hbox7 1
      have z2 := cell_of_heap hbox7 2
      have fz := fun j => frozen_of_row w7 w3.heap.size j _ _ hbox7
      simp at z0 z1 z2
      have hset := heap_setCell_same w7 w3.heap.size 2 _ 29 (.slice a7 m7 c7) hbox7
      simp at hset
      have hs7 := hb7.size
      simp at hs7
      have hown8 : Hid (OwnsE (w7.setCell ⟨w3.heap.size, 2, none⟩ (.slice a7 m7 c7)) (w3.heap.size + 1) (.slice a7 m7 c7) (((T.drop 2).take (k + 1)).map readS)) := hidI (by rw [hnx.out]; exact hown7.other (by omega))
      have hb8 : Hid (Below w3.heap.size w3 (w7.setCell ⟨w3.heap.size, 2, none⟩ (.slice a7 m7 c7))) := hidI (((hb.out.trans ((hb6.trans (hbe.out.mono hb6.size)).mono hb.out.size)).trans (hb7.mono (by omega))).setCell (p := ⟨w3.heap.size, 2, none⟩) (Nat.le_refl _) _)
      have hsz8 : Hid (w3.heap.size + 1 ≤ (w7.setCell ⟨w3.heap.size, 2, none⟩ (.slice a7 m7 c7)).heap.size) := hidI (by simp [World.setCell]; omega)
      replace hset := hidI hset
      replace hbox7 := hidI hbox7
      clear y2 hown7 hb7 hb6
      go_wp2
      go_roundg (tn - (k + 1))
      case rel => exact ⟨k + 1, a7, m7, c7, by have := hk.out; omega, .inl (by omega), by go_num, hset, hown8, hsz8, hb8⟩
      case measure => have := hk.out; omega
    · have hXE : ((T.drop 2).take k).map readS = E := by rw [hE.out]; unfold candE; rw [List.take_of_length_le (by rw [List.length_drop]; have := htn.out; omega)]
      rw [hXE] at hown
      have hki : ¬ (k : Int) + 2 < (tn : Int) := by omega
      have hEl : E.length ≤ 1048577 := by rw [hE.out]; unfold candE; simp; have := htn.out; omega
      have hrow := hown.out.row (by omega)
      have hm := hrow.cap.1
      have hread : ReadE wr.heap.size wr (.slice a m c) E := hrow.read
      have hEin : InE E := by rw [hE.out]; exact map_readG_in numS_bd _
      have hb0 : -9223372036854775808 ≤ n0 ∧ n0 ≤ 9223372036854775807 := by rw [hn0.out]; exact numS_bd _
      have hb1' : -9223372036854775808 ≤ n1 ∧ n1 ≤ 9223372036854775807 := by
        rw [hn1.out]; unfold candZ; split
        · exact numS_bd _
        · omega
      have hfg := sFmtG wr n0 n1 (.slice a m c) E hread hb0 hb1' hEin (by omega)
      obtain ⟨F, hF⟩ : ∃ F, F = fmtS n0 n1 E := ⟨_, rfl⟩
      rw [← hF] at hfg
      have hFl : F.toList = fmtGr n0 n1 E := by rw [hF, ByteArray.toList_eq]; simp [fmtS]
      have hsl : s.toList = L := by rw [ByteArray.toList_eq, hL.out]
      have hzz : wr.heap[w.heap.size]? = some (.cells #[.int .i64 0, .int .i64 0, .slice none 0 0] 29 (0, 0)) := by rw [hb.out.block _ hltz]; exact hz3.out
      have hbz := hbz3.out.trans (hb.out.mono hbz3.out.size)
      replace hsl := hidI hsl
      replace hFl := hidI hFl
      replace hm := hidI hm
      replace hrow := hidI hrow
      replace hread := hidI hread
      replace hEin := hidI hEin
      replace hF := hidI hF
      replace hbz := hidI hbz
      replace hzz := hidI hzz
      replace hk := hidI hk
      replace hXE := hidI hXE
      clear hk2 hb0 hb1'
      have hfail : ∀ wx, wx.heap[w.heap.size]? = some (.cells #[.int .i64 0, .int .i64 0, .slice none 0 0] 29 (0, 0)) → PB = false → Below w.heap.size w wx → LwGraphBool w QR QZ QE PB (.returned (.tuple #[.agg #[.int .i64 0, .int .i64 0, .slice none 0 0], .bool false])) (((wx.setCell ⟨w.heap.size, 0, none⟩ (.int .i64 0)).setCell ⟨w.heap.size, 1, none⟩ (.int .i64 0)).setCell ⟨w.heap.size, 2, none⟩ (.slice none 0 0)) := by
        intro wx h1 h2 h3
        subst h2
        rw [hQR.out, hQZ.out, hQE.out]
        refine ⟨none, 0, rfl, ?_, below_set3' h3 (Nat.le_refl _)⟩
        exact ((OwnsS.nil _ _).row (by simp)).wide (Nat.le_refl _) (Nat.le_refl _)
      replace hfail := hidI hfail
      by_cases hemp : L = []
      · have hp : PB = false := by rw [hPB2.out]; simp [hemp]
        have ht1 : (s.toList == ([] : List UInt8)) = true := by rw [hsl.out, hemp]; rfl
        have z0 := cell_of_heap hzz.out 0
        have z1 := cell_of_heap hzz.out 1
        have z2 := cell_of_heap hzz.out 2
        have fz := fun j => frozen_of_row wr w.heap.size j _ _ hzz.out
        simp at z0 z1 z2
        replace hp := hidI hp
        replace hemp := hidI hemp
        clear hfg
        go_wp2
        (try simp only [Exit.inBlock, Exit.then])
        refine ret_cell2 (x := .bool false) rfl rfl rfl (set3 hzz.out _ _ _) Tryd.underlying29 sizeGraph ?_
        exact hfail.out wr hzz.out hp.out hbz.out
      · have ht1 : (s.toList == ([] : List UInt8)) = false := by rw [hsl.out, beq_eq_false_iff_ne]; exact hemp
        go_wp2_with fail
        refine hfg.mono ?_
        rintro e w9 ⟨rfl, hb9⟩
        have hz9 : w9.heap[w.heap.size]? = some (.cells #[.int .i64 0, .int .i64 0, .slice none 0 0] 29 (0, 0)) := by rw [hb9.block _ (by have := hb.out.size; omega)]; exact hzz.out
        have z0 := cell_of_heap hz9 0
        have z1 := cell_of_heap hz9 1
        have z2 := cell_of_heap hz9 2
        have fz := fun j => frozen_of_row w9 w.heap.size j _ _ hz9
        simp at z0 z1 z2
        have hbz9 := hbz.out.trans (hb9.mono hbz.out.size)
        by_cases hsame : fmtGr n0 n1 E = L
        · have hp : PB = true := by rw [hPB2.out]; simp [hemp, hsame]
          have ht2 : (F.toList == s.toList) = true := by rw [hFl.out, hsl.out, beq_iff_eq]; exact hsame
          have ht3 : (F.toList != s.toList) = false := by rw [hFl.out, hsl.out, bne_eq_false_iff_eq]; exact hsame
          have hbx9 : w9.heap[w3.heap.size]? = some (.cells #[.int .i64 n0, .int .i64 n1, .slice a m c] 29 (0, 0)) := by rw [hb9.block _ (by omega)]; exact hbox.out
          have j0 := cell_of_heap hbx9 0
          have j1 := cell_of_heap hbx9 1
          have j2 := cell_of_heap hbx9 2
          simp at j0 j1 j2
          have hne : w3.heap.size ≠ w.heap.size := by omega
          have hrow9 := hrow.out.below hb9 (Nat.le_refl _)
          have hfin : LwGraphBool w QR QZ QE PB (.returned (.tuple #[.agg #[.int .i64 n0, .int .i64 n1, .slice a m c], .bool true])) (((w9.setCell ⟨w.heap.size, 0, none⟩ (.int .i64 n0)).setCell ⟨w.heap.size, 1, none⟩ (.int .i64 n1)).setCell ⟨w.heap.size, 2, none⟩ (.slice a m c)) := by
            rw [hQR.out, hQZ.out, hQE.out, hp]
            have hm' := hm.out
            subst hm'
            refine ⟨a, c, rfl, ?_, below_set3' hbz9 (Nat.le_refl _)⟩
            have hs9 := hb9.size
            refine RowS.wide (RowS.keep hrow9 (fun k h1 h2 => ?_)) (by omega) (by simp [World.setCell]; omega)
            rw [Below.heap_setCell _ _ _ _ (show k ≠ w.heap.size by omega), Below.heap_setCell _ _ _ _ (show k ≠ w.heap.size by omega), Below.heap_setCell _ _ _ _ (show k ≠ w.heap.size by omega)]
          replace hfin := hidI hfin
          replace hz9 := hidI hz9
          replace hbx9 := hidI hbx9
          replace hp := hidI hp
          replace hsame := hidI hsame
          replace hemp := hidI hemp
          replace hrow9 := hidI hrow9
          clear q0 q1 q2
          go_wp2
          (try simp only [Exit.inBlock, Exit.then])
          refine ret_cell2 (x := .bool true) rfl rfl rfl (set3 hz9.out _ _ _) Tryd.underlying29 sizeGraph ?_
          exact hfin.out
        · have hp : PB = false := by rw [hPB2.out]; simp [hsame]
          have ht2 : (F.toList == s.toList) = false := by rw [hFl.out, hsl.out, beq_eq_false_iff_ne]; exact hsame
          have ht3 : (F.toList != s.toList) = true := by rw [hFl.out, hsl.out, bne_iff_ne]; exact hsame
          replace hz9 := hidI hz9
          replace hp := hidI hp
          replace hsame := hidI hsame
          replace hemp := hidI hemp
          clear q0 q1 q2
          go_wp2
          (try simp only [Exit.inBlock, Exit.then])
          refine ret_cell2 (x := .bool false) rfl rfl rfl (set3 hz9.out _ _ _) Tryd.underlying29 sizeGraph ?_
          exact hfail.out w9 hz9.out hp.out hbz9
end Go.Proofs.YtkmhncbakfnfeaaDoor
