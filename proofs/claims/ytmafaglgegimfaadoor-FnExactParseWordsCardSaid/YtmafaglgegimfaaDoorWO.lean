/- Words, the texts: ParseWord of the model. -/
import Derived.Test.YtmafaglgegimfaaDoorMF
import Derived.Test.YtmafaglgegimfaaDoorWS6
import Derived.Test.YtmafaglgegimfaaDoorM
namespace Go.Proofs.YtmafaglgegimfaaDoor
open Go.RowKit
set_option linter.unusedVariables false

def parOk (r : Int) (L : List UInt8) : Bool := if L = [49] then isW r [] else decide (L ≠ []) && goodB L && isW r (L.map unch)
def parL (r : Int) (L : List UInt8) : List Int := if parOk r L = true then (if L = [49] then [] else L.map unch) else []
theorem parL_bad {r : Int} {L : List UInt8} (h : parOk r L = false) : parL r L = [] := by unfold parL; rw [h]; rfl
theorem parL_good {r : Int} {L : List UInt8} (h : parOk r L = true) (h1 : L ≠ [49]) : parL r L = L.map unch := by unfold parL; rw [if_pos h, if_neg h1]
theorem parOk_unit (r : Int) : parOk r [49] = isW r [] := if_pos rfl
theorem parL_unit (r : Int) : parL r [49] = [] := by unfold parL; split <;> rfl
theorem parOk_word {r : Int} {L : List UInt8} (h1 : L ≠ [49]) (h0 : L ≠ []) (hg : goodB L = true) : parOk r L = isW r (L.map unch) := by
  unfold parOk
  rw [if_neg h1, hg]
  simp [h0]
theorem parOk_nil (r : Int) : parOk r [] = false := by unfold parOk; rw [if_neg (by simp)]; rfl
theorem parOk_bad {r : Int} {L : List UInt8} (h1 : L ≠ [49]) (hg : goodB L = false) : parOk r L = false := by unfold parOk; rw [if_neg h1, hg]; simp
theorem parL_length (r : Int) (L : List UInt8) : (parL r L).length ≤ L.length := by
  unfold parL
  split
  · split
    · simp
    · simp
  · simp
theorem parL_in (r : Int) (L : List UInt8) : InR (parL r L) := by
  unfold parL
  split
  · split
    · exact InR.nil
    · exact map_unch_in L
  · exact InR.nil
/-- What a function that hands back a slice of ints and a bool leaves. -/
def IntsBoolRet (w : World) (zs : List Int) (b : Bool) (e : Ending) (w' : World) : Prop :=
  ∃ v, e = .returned (.tuple #[v, .bool b]) ∧ RowI w' w.heap.size w'.heap.size v zs ∧ Below w.heap.size w w'
theorem OwnsI.form3 {w : World} {base : Nat} {v : Value} {zs : List Int} (h : OwnsI w base v zs) : ∃ a m c, v = .slice a m c := by
  obtain ⟨a, c, hv⟩ := h.form_any
  exact ⟨a, _, c, hv⟩
theorem intsBool_lit (w wr : World) (b : Bool) (hb : Below w.heap.size w wr) (g : Nat) (hg : g = wr.heap.size) : IntsBoolRet w [] b (.returned (.tuple #[.slice (some ⟨g, 0, none⟩) 0 0, .bool b])) (wr.alloc (.cells #[] 3)) := by
  subst hg
  refine ⟨_, rfl, ?_, hb.alloc hb.size _⟩
  exact ((OwnsI.lit wr).row (by simp)).wide hb.size (Nat.le_refl _)
set_option maxHeartbeats 800000 in
/-- From the test of IsWord on. -/
theorem par_char (s : ByteArray) (k : Nat) (h : k < s.size) : (s.data.toList.take (k + 1)).map unch = (s.data.toList.take k).map unch ++ [unch s[k]] := by
  rw [take_snoc s k h, List.map_append]; rfl
theorem good_next {s : ByteArray} {k : Nat} (h : k < s.size) (hall : ∀ c ∈ s.data.toList.take k, unch c ≠ 0) (hc : unch s[k] ≠ 0) : ∀ c ∈ s.data.toList.take (k + 1), unch c ≠ 0 := by
  intro c hm
  rw [take_snoc s k h] at hm
  rcases List.mem_append.1 hm with h1 | h1
  · exact hall c h1
  · rw [List.mem_singleton.1 h1]; exact hc
theorem good_not {s : ByteArray} {k : Nat} (h : k < s.size) (hc : unch s[k] = 0) : goodB s.data.toList = false := by
  rw [← Bool.not_eq_true, goodB_at]
  intro hh
  exact hh _ (List.getElem_mem (l := s.data.toList) (n := k) (by simpa using h)) hc
set_option maxHeartbeats 1600000 in
theorem specPar_unit (w : World) (r : Int) (s : ByteArray) (hs : s.size ≤ 1048576) (h1 : s.data.toList = [49]) :
    Calls Tryd.prog 11 #[.int .i64 r, .string s] w (IntsBoolRet w (parL r s.data.toList) (parOk r s.data.toList)) := by
  have hown0 := OwnsI.lit w
  have hb0 := (Below.refl w.heap.size w).alloc (Nat.le_refl _) (.cells #[] 3)
  rw [h1, parL_unit, parOk_unit]
  have ht : s.toList = [49] := by rw [ByteArray.toList_eq]; exact h1
  have hz : (s.toList == [49]) = true := by rw [ht]; rfl
  have he : s.toList.isEmpty = false := by rw [ht]; rfl
  have hsz : s.size = 1 := by
    have : s.data.toList.length = 1 := by rw [h1]; rfl
    simpa using this
  have hcall := specIsW (w.alloc (.cells #[] 3)) (w.heap.size + 1) (.slice (some ⟨w.heap.size, 0, none⟩) 0 0) [] r (by simpa using (hown0.row (by simp)).read)
  obtain ⟨b, hbv⟩ : ∃ b, b = isW r [] := ⟨_, rfl⟩
  rw [← hbv] at hcall ⊢
  have hrow := (hown0.row (by simp)).wide (lo' := w.heap.size) (Nat.le_refl _) (Nat.le_refl _)
  replace hown0 := hidI hown0
  replace hrow := hidI hrow
  replace ht := hidI ht
  replace h1 := hidI h1
  replace hbv := hidI hbv
  go_enter Tryd.func11, Tryd.ntmps11
  go_wp2
  go_loopw [6, 7] (fun v i wr => v = .slice (some ⟨w.heap.size, 0, none⟩) 0 0 ∧ i = .int .i64 0 ∧ Hid (wr = w.alloc (.cells #[] 3))) (fun _ _ _ => 0)
  case atStart => exact ⟨rfl, rfl, hidI rfl⟩
  case round =>
    obtain ⟨rfl, rfl, hwr⟩ := hrel
    have hwr' := hwr.out
    subst hwr'
    cases b with
    | true =>
      go_wp2_with fail
      refine hcall.mono ?_
      rintro e w1 ⟨rfl, n, rfl⟩
      clear hcall
      go_wp2
      go_ret2
      exact ⟨_, rfl, hrow.out, below_dN hb0 n⟩
    | false =>
      go_wp2_with fail
      refine hcall.mono ?_
      rintro e w1 ⟨rfl, n, rfl⟩
      have hr := intsBool_lit w ((w.alloc (.cells #[] 3)).drewN n) false (below_dN hb0 n) (w.heap.size + 1) (by show _ = (w.alloc (.cells #[] 3)).heap.size; simp)
      replace hr := hidI hr
      clear hcall
      go_wp2
      go_ret2
      exact hr.out
set_option maxHeartbeats 3200000 in
theorem specPar_other (w : World) (r : Int) (s : ByteArray) (hs : s.size ≤ 1048576) (h1 : s.data.toList ≠ [49]) :
    Calls Tryd.prog 11 #[.int .i64 r, .string s] w (IntsBoolRet w (parL r s.data.toList) (parOk r s.data.toList)) := by
  have hown0 := hidI (OwnsI.lit w)
  have hb0 := (Below.refl w.heap.size w).alloc (Nat.le_refl _) (.cells #[] 3)
  have hz : (s.toList == [49]) = false := by
    rw [beq_eq_false_iff_ne, ByteArray.toList_eq]; exact h1
  replace h1 := hidI h1
  go_enter Tryd.func11, Tryd.ntmps11
  go_wp2
  go_loopw [6, 7] (fun v i wr => ∃ k : Nat, k ≤ s.size ∧ i = .int .i64 k ∧ Hid (OwnsI wr w.heap.size v ((s.data.toList.take k).map unch)) ∧ Hid (∀ c ∈ s.data.toList.take k, unch c ≠ 0) ∧ Below w.heap.size w wr) (fun _ i _ => s.size - (intOf i).toNat)
  case atStart => exact ⟨0, Nat.zero_le _, rfl, hown0, hidI (fun c h => by simp at h), hb0⟩
  case round =>
    clear hown0 hb0
    obtain ⟨k, hk, rfl, hown, hall, hb⟩ := hrel
    by_cases hlt : k < s.size
    · have hlt2 : (k : Int) < (s.size : Int) := by omega
      have hcb := toNat_lt s[k]
      have hpc := par_char s k hlt
      obtain ⟨L, hL⟩ : ∃ L, L = (s.data.toList.take k).map unch := ⟨_, rfl⟩
      have hLl : L.length ≤ 1000000000 := by
        rw [hL, List.length_map, List.length_take]
        have : s.data.toList.length = s.size := by simp
        omega
      rw [← hL] at hpc hown
      replace hL := hidI hL
      by_cases c1 : 97 ≤ s[k].toNat ∧ s[k].toNat ≤ 99
      · obtain ⟨c1a, c1b⟩ := c1
        have hu := unch_low ⟨c1a, c1b⟩
        have hnext := hidI (good_next hlt hall.out (by rw [hu]; omega))
        have hu2 : (s[k].toNat : Int) - 97 + 1 = unch s[k] := by rw [hu]; omega
        obtain ⟨u, huv⟩ : ∃ u, u = unch s[k] := ⟨_, rfl⟩
        rw [← huv] at hpc hu2
        replace hpc := hidI hpc
        replace hu := hidI hu
        replace huv := hidI huv
        go_wp2_with (at_builtin; go_must (refine wpList_pushI rfl _ _ rfl w.heap.size _ L u rfl rfl (by exact hown.out) hLl hb.size ?_))
        intro v' w' hown' hb'
        have hown2 : Hid (OwnsI w' w.heap.size v' ((s.data.toList.take (k + 1)).map unch)) := hidI (by rw [hpc.out]; exact hown')
        have hb2 := hb.trans hb'
        clear hown' hb' hown hb
        go_wp2
        go_roundw
        case rel => exact ⟨k + 1, by omega, by go_num, hown2, hnext, hb2⟩
        case measure => simp [intOf]; omega
      · by_cases c2 : 65 ≤ s[k].toNat ∧ s[k].toNat ≤ 67
        · obtain ⟨c2a, c2b⟩ := c2
          have hu := unch_up ⟨c2a, c2b⟩
          have hnext := hidI (good_next hlt hall.out (by rw [hu]; omega))
          have hu2 : -((s[k].toNat : Int) - 65) - 1 = unch s[k] := by rw [hu]; omega
          have c3 : ¬ 97 ≤ (s[k].toNat : Int) := by omega
          have c4 : (s[k].toNat : Int) ≤ 67 := by omega
          have c5 : 65 ≤ (s[k].toNat : Int) := by omega
          obtain ⟨u, huv⟩ : ∃ u, u = unch s[k] := ⟨_, rfl⟩
          rw [← huv] at hpc hu2
          replace hpc := hidI hpc
          replace hu := hidI hu
          replace huv := hidI huv
          clear c1
          go_wp2_with (at_builtin; go_must (refine wpList_pushI rfl _ _ rfl w.heap.size _ L u rfl rfl (by exact hown.out) hLl hb.size ?_))
          intro v' w' hown' hb'
          have hown2 : Hid (OwnsI w' w.heap.size v' ((s.data.toList.take (k + 1)).map unch)) := hidI (by rw [hpc.out]; exact hown')
          have hb2 := hb.trans hb'
          clear hown' hb' hown hb
          go_wp2
          go_roundw
          case rel => exact ⟨k + 1, by omega, by go_num, hown2, hnext, hb2⟩
          case measure => simp [intOf]; omega
        · have hbad := parOk_bad (r := r) h1.out (good_not hlt (unch_no c1 c2))
          have hr : IntsBoolRet w (parL r s.data.toList) (parOk r s.data.toList) (.returned (.tuple #[.slice (some ⟨wr.heap.size, 0, none⟩) 0 0, .bool false])) (wr.alloc (.cells #[] 3)) := by
            rw [parL_bad hbad, hbad]
            exact intsBool_lit w wr false hb wr.heap.size rfl
          replace hr := hidI hr
          replace hbad := hidI hbad
          replace hpc := hidI hpc
          by_cases d1 : 97 ≤ (s[k].toNat : Int)
          · have d2 : decide ((s[k].toNat : Int) ≤ 99) = false := by simp; omega
            have d3 : 65 ≤ (s[k].toNat : Int) := by omega
            have d4 : decide ((s[k].toNat : Int) ≤ 67) = false := by simp; omega
            clear c1 c2
            go_wp2
            go_ret2
            exact hr.out
          · by_cases d3 : 65 ≤ (s[k].toNat : Int)
            · have d4 : decide ((s[k].toNat : Int) ≤ 67) = false := by simp; omega
              clear c1 c2
              go_wp2
              go_ret2
              exact hr.out
            · clear c1 c2
              go_wp2
              go_ret2
              exact hr.out
    · obtain rfl : k = s.size := by omega
      have htk : s.data.toList.take s.size = s.data.toList := List.take_of_length_le (by simp)
      rw [htk] at hown hall
      by_cases h0 : s.data.toList = []
      · have hbad := parOk_nil r
        have hr : IntsBoolRet w (parL r s.data.toList) (parOk r s.data.toList) (.returned (.tuple #[.slice (some ⟨wr.heap.size, 0, none⟩) 0 0, .bool false])) (wr.alloc (.cells #[] 3)) := by
          rw [h0, parL_bad hbad, hbad]
          exact intsBool_lit w wr false hb wr.heap.size rfl
        have he : s.toList.isEmpty = true := by rw [ByteArray.toList_eq, h0]; rfl
        replace hr := hidI hr
        replace h0 := hidI h0
        replace hbad := hidI hbad
        replace htk := hidI htk
        go_wp2
        go_ret2
        exact hr.out
      · have he : s.toList.isEmpty = false := by rw [ByteArray.toList_eq, List.isEmpty_eq_false_iff]; exact h0
        have hok := parOk_word (r := r) h1.out h0 (goodB_at.2 hall.out)
        have hrow := hown.out.row (by rw [List.length_map]; have : s.data.toList.length = s.size := by simp
                                      omega)
        have hcall := specIsW wr wr.heap.size _ _ r hrow.read
        rw [← hok] at hcall
        obtain ⟨a, m, c, hv⟩ := hown.out.form3
        rw [hv] at hcall hrow
        subst hv
        cases hpo : parOk r s.data.toList with
        | true =>
          rw [hpo] at hcall
          have hr : ∀ n, IntsBoolRet w (parL r s.data.toList) (parOk r s.data.toList) (.returned (.tuple #[.slice a m c, .bool true])) (wr.drewN n) := by
            intro n
            rw [parL_good hpo h1.out, hpo]
            exact ⟨_, rfl, hrow, below_dN hb n⟩
          replace hr := hidI hr
          replace hok := hidI hok
          replace h0 := hidI h0
          replace htk := hidI htk
          replace hpo := hidI hpo
          replace hrow := hidI hrow
          go_wp2_with fail
          refine hcall.mono ?_
          rintro e w1 ⟨rfl, n, rfl⟩
          clear hcall
          go_wp2
          go_ret2
          exact hr.out n
        | false =>
          rw [hpo] at hcall
          have hr : ∀ n, IntsBoolRet w (parL r s.data.toList) (parOk r s.data.toList) (.returned (.tuple #[.slice (some ⟨wr.heap.size, 0, none⟩) 0 0, .bool false])) ((wr.drewN n).alloc (.cells #[] 3)) := by
            intro n
            rw [parL_bad hpo, hpo]
            exact intsBool_lit w (wr.drewN n) false (below_dN hb n) wr.heap.size rfl
          replace hr := hidI hr
          replace hok := hidI hok
          replace h0 := hidI h0
          replace htk := hidI htk
          replace hpo := hidI hpo
          replace hrow := hidI hrow
          go_wp2_with fail
          refine hcall.mono ?_
          rintro e w1 ⟨rfl, n, rfl⟩
          clear hcall
          go_wp2
          go_ret2
          exact hr.out n
theorem specPar (w : World) (r : Int) (s : ByteArray) (hs : s.size ≤ 1048576) :
    Calls Tryd.prog 11 #[.int .i64 r, .string s] w (IntsBoolRet w (parL r s.data.toList) (parOk r s.data.toList)) := by
  by_cases h1 : s.data.toList = [49]
  · exact specPar_unit w r s hs h1
  · exact specPar_other w r s hs h1
end Go.Proofs.YtmafaglgegimfaaDoor
