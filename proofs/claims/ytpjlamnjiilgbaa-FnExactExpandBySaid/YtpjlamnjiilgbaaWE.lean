/- Words, the program: multiplyAll and what stands on it. -/
import Derived.Test.YtpjlamnjiilgbaaWD
import Derived.Test.YtpjlamnjiilgbaaRLL
namespace Go.Proofs.Ytpjlamnjiilgbaa
open Go.RowKit
set_option linter.unusedVariables false

theorem InR.take_flat {zss : List (List Int)} (h : InR zss.flatten) (k : Nat) : InR (zss.take k).flatten := by
  have : zss.flatten = (zss.take k).flatten ++ (zss.drop k).flatten := by rw [← List.flatten_append, List.take_append_drop]
  rw [this] at h
  exact h.left
theorem InR.at_flat {zss : List (List Int)} (h : InR zss.flatten) {k : Nat} (hk : k < zss.length) : InR (zss.getD k []) := by
  rw [getD_lists hk]
  exact fun x hx => h x (List.mem_flatten.2 ⟨_, List.getElem_mem hk, hx⟩)
theorem stk_take {s zs : List Int} {j : Nat} (h : j < zs.length) : stk s (zs.take (j + 1)) = push (stk s (zs.take j)) (zs.getD j 0) := by
  rw [List.take_succ_eq_append_getElem h, stk_snoc]
  simp [List.getD_eq_getElem?_getD, h]

set_option maxHeartbeats 1600000 in
theorem multiplyAll_any (w : World) (v : Value) (zss : List (List Int)) (h : ReadLL w.heap.size w v zss) (hin : InR zss.flatten) (hl : zss.flatten.length ≤ 1000000000) :
    Calls Try.prog 18 #[v] w (IntsRet w (redL zss.flatten)) := by
  have hread := h
  obtain ⟨hml, a, cap, rfl, hq⟩ := h
  clear hq
  obtain ⟨m, hm⟩ : ∃ m, m = zss.length := ⟨_, rfl⟩
  rw [← hm] at hml hread ⊢
  replace hm := hidI hm
  replace hread := hidI hread
  go_enter Try.func18, Try.ntmps18
  go_wp2
  go_loopg [3, 10] m (fun g v i wr => ∃ k : Nat, k + g = m ∧ i = .int .i64 k ∧ Chain wr w.heap.size wr.heap.size (stk [] (zss.take k).flatten) v ∧ Below w.heap.size w wr)
  case atStart => exact ⟨0, by omega, rfl, rfl, Below.refl _ _⟩
  case round =>
    obtain ⟨k, hk, rfl, hch, hb⟩ := hrel
    by_cases hlt : k < m
    · obtain ⟨b, off, vi, rfl, hB, hcell0, hri⟩ := hread.out.at_ k (by have := hm.out; omega)
      have hcell : wr.cell? ⟨b, off + k, none⟩ = some vi := by rw [hb.cell (p := ⟨b, off + k, none⟩) hB]; exact hcell0
      clear hcell0
      have hzin := hin.at_flat (k := k) (by have := hm.out; omega)
      have hstep := take_flat (zss := zss) (k := k) (by have := hm.out; omega)
      have hpin := hin.take_flat k
      have hlen := take_flat_le zss (k + 1)
      rw [hstep, List.length_append] at hlen
      obtain ⟨z, hz⟩ : ∃ z, z = zss.getD k [] := ⟨_, rfl⟩
      rw [← hz] at hri hzin hstep hlen
      obtain ⟨s0, hs0⟩ : ∃ s0, s0 = stk [] (zss.take k).flatten := ⟨_, rfl⟩
      have hs0in : InR s0 := by rw [hs0]; exact stk_in InR.nil hpin
      have hs0l : s0.length ≤ (zss.take k).flatten.length := by
        rw [hs0]
        have := stk_length (zss.take k).flatten []
        rwa [List.length_nil, Nat.zero_add] at this
      have hnext : stk [] (zss.take (k + 1)).flatten = stk s0 z := by rw [hstep, stk_append, hs0]
      rw [← hs0] at hch
      have hbound : s0.length + z.length ≤ 1000000000 := by omega
      have hri2 := hri
      obtain ⟨hzl, a2, cap2, rfl, hq1, hq2⟩ := hri
      obtain ⟨n, hn⟩ : ∃ n, n = z.length := ⟨_, rfl⟩
      rw [← hn] at hzl hri2 hbound hcell
      have hk2 : (k : Int) < (m : Int) := by omega
      clear hq1 hq2 hstep hpin hs0l hlen
      replace hz := hidI hz
      replace hs0 := hidI hs0
      replace hn := hidI hn
      replace hri2 := hidI hri2
      replace hnext := hidI hnext
      replace hk := hidI hk
      replace hch := hidI hch
      replace hm := hidI hm
      go_wp2
      obtain ⟨wo, hwo⟩ : ∃ wo : World, wo = wr := ⟨_, rfl⟩
      rw [← hwo] at hcell hb hch ⊢
      clear hwo
      go_loopg [3, 16] n (fun g v i wx => ∃ j : Nat, j + g = n ∧ i = .int .i64 j ∧ Chain wx w.heap.size wx.heap.size (stk s0 (z.take j)) v ∧ Below w.heap.size w wx)
      case atStart => exact ⟨0, by omega, rfl, hch.out, hb⟩
      case round =>
        obtain ⟨j, hj, rfl, hci, hbi⟩ := hrel
        by_cases hlj : j < n
        · obtain ⟨b2, off2, rfl, hB2, hcell2⟩ := (hri2.out.below hbi).at_ j (by have := hn.out; omega)
          have hzj := hzin.getD j (by have := hn.out; omega)
          have hsj := stk_take (s := s0) (zs := z) (j := j) (by have := hn.out; omega)
          have hcin : InR (stk s0 (z.take j)) := stk_in hs0in (hzin.take j)
          have hcl : (stk s0 (z.take j)).length ≤ 1000000000 := by
            have := stk_length (z.take j) s0
            rw [List.length_take] at this
            omega
          obtain ⟨x, hx⟩ : ∃ x, x = z.getD j 0 := ⟨_, rfl⟩
          rw [← hx] at hcell2 hzj hsj
          have hlj2 : (j : Int) < (n : Int) := by omega
          have hcall := followedBy_any wr w.heap.size _ _ x hbi.size hci hcin hzj hcl
          replace hx := hidI hx
          replace hsj := hidI hsj
          replace hj := hidI hj
          clear hcell hci hcin hcl hzj
          go_wp2_with fail
          refine hcall.mono ?_
          rintro e w1 ⟨v1, rfl, hch1, hb1⟩
          have hbn := hbi.trans (hb1.mono hbi.size)
          replace hch1 := hidI hch1
          clear hb1 hcall
          go_wp2
          go_roundg (n - (j + 1))
          case rel => exact ⟨j + 1, by have := hj.out; omega, by go_num, by rw [hsj.out]; exact hch1.out, hbn⟩
          case measure => have := hj.out; omega
        · obtain rfl : j = n := by omega
          have hfz : z.take j = z := List.take_of_length_le (by have := hn.out; omega)
          rw [hfz, ← hnext.out] at hci
          replace hfz := hidI hfz
          replace hj := hidI hj
          replace hci := hidI hci
          go_wp2
          go_roundg (m - (k + 1))
          case rel => exact ⟨k + 1, by have := hk.out; omega, by go_num, hci.out, hbi⟩
          case measure => have := hk.out; omega
    · obtain rfl : k = m := by omega
      have hfull : (zss.take k).flatten = zss.flatten := by rw [List.take_of_length_le (by have := hm.out; omega)]
      rw [hfull] at hch
      have hll := stk_length zss.flatten []
      have hcall := letters_any wr w.heap.size _ _ hch (by rw [List.length_nil, Nat.zero_add] at hll; omega)
      rw [← redL_stk hin] at hcall
      replace hfull := hidI hfull
      replace hk := hidI hk
      clear hll hch
      go_wp2_with fail
      refine hcall.mono ?_
      rintro e w1 ⟨v1, rfl, hrow, hb1⟩
      have hs := hb.size
      have hr : IntsRet w (redL zss.flatten) (.returned v1) w1 := ⟨v1, rfl, hrow.wide hs (Nat.le_refl _), hb.trans (hb1.mono hs)⟩
      replace hr := hidI hr
      clear hrow hb1 hb
      go_wp2
      go_ret
      exact hr.out
end Go.Proofs.Ytpjlamnjiilgbaa
