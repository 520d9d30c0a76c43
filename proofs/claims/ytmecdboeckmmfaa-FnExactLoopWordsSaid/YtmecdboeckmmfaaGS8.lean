/- Graphs, the model: l4Add, StepsFrom. -/
import Derived.Test.YtmecdboeckmmfaaGS6
import Derived.Test.YtmecdboeckmmfaaWS1
namespace Go.Proofs.Ytmecdboeckmmfaa
open Go.RowKit
set_option linter.unusedVariables false
set_option linter.unusedSimpArgs false

/-- x put into an ascending list. -/
def addZ (x : Int) : List Int → List Int
  | [] => [x]
  | y :: ys => if y < x then y :: addZ x ys else if y = x then y :: ys else x :: y :: ys
theorem addZ_length (x : Int) (l : List Int) : (addZ x l).length ≤ l.length + 1 := by
  induction l with
  | nil => simp [addZ]
  | cons y ys ih =>
    unfold addZ
    split
    · simp only [List.length_cons]; omega
    · split <;> simp
theorem addZ_nil (x : Int) : addZ x [] = [x] := rfl
theorem addZ_lt {x y : Int} (ys : List Int) (h : y < x) : addZ x (y :: ys) = y :: addZ x ys := by rw [addZ, if_pos h]
theorem addZ_eq {x y : Int} (ys : List Int) (h : y = x) : addZ x (y :: ys) = y :: ys := by rw [addZ, if_neg (by omega), if_pos h]
theorem addZ_gt {x y : Int} (ys : List Int) (h : x < y) : addZ x (y :: ys) = x :: y :: ys := by rw [addZ, if_neg (by omega), if_neg (by omega)]
theorem drop_one {l : List Int} {k : Nat} (h : k < l.length) : l.drop k = l.getD k 0 :: l.drop (k + 1) := by
  rw [List.drop_eq_getElem_cons h, List.getD_eq_getElem?_getD, List.getElem?_eq_getElem h]; rfl
theorem OwnsI.form4 {w : World} {base : Nat} {v : Value} {zs : List Int} (h : OwnsI w base v zs) : ∃ a m c, v = .slice a m c := by
  obtain ⟨a, cap, hv⟩ := OwnsI.form_any h
  exact ⟨a, _, cap, hv⟩
set_option maxHeartbeats 1600000 in
theorem specAdd (w : World) (v : Value) (zs : List Int) (x : Int) (h : ReadI w.heap.size w v zs) (hl : zs.length ≤ 100000000) :
    Calls Try.prog 101 #[v, .int .i64 x] w (IntsRet w (addZ x zs)) := by
  have hread := h
  obtain ⟨_, a, cap, rfl, hq1, hq2⟩ := h
  clear hq1 hq2
  obtain ⟨n, hn⟩ : ∃ n, n = zs.length := ⟨_, rfl⟩
  have hal := addZ_length x zs
  rw [← hn] at hl hread hal ⊢
  obtain ⟨R, hR⟩ : ∃ R, R = addZ x zs := ⟨_, rfl⟩
  rw [← hR] at hal ⊢
  have hown0 := hidI (OwnsI.lit w)
  have hb0 := (Below.refl w.heap.size w).alloc (Nat.le_refl _) (.cells #[] 3)
  replace hn := hidI hn
  replace hread := hidI hread
  replace hR := hidI hR
  go_enter Try.func101, Try.ntmps101
  go_wp2
  go_loopg [5, 6, 7] n (fun g vv p i wr => ∃ (k : Nat) (o : List Int) (q : Bool), k + g = n ∧ i = .int .i64 k ∧ p = .bool q ∧ o.length ≤ n + 1 ∧ Hid (R = o ++ (if q = true then zs.drop k else addZ x (zs.drop k))) ∧ Hid (OwnsI wr w.heap.size vv o) ∧ Hid (Below w.heap.size w wr))
  case atStart => exact ⟨0, [], false, by omega, rfl, rfl, by simp, hidI (by rw [hR.out]; rfl), hown0, hidI hb0⟩
  case round =>
    clear hown0 hb0
    obtain ⟨k, o, q, hk, rfl, rfl, hol, hinv, hown, hb⟩ := hrel
    obtain ⟨a1, m1, c1, rfl⟩ := OwnsI.form4 hown.out
    by_cases hlt : k < n
    · obtain ⟨b, off, rfl, hB, hcell⟩ := (hread.out.below hb.out).at_ k (by have := hn.out; omega)
      obtain ⟨z, hz⟩ : ∃ z, z = zs.getD k 0 := ⟨_, rfl⟩
      have hdr := drop_one (l := zs) (k := k) (by have := hn.out; omega)
      rw [← hz] at hcell hdr
      have hrl : R.length = o.length + (if q = true then zs.drop k else addZ x (zs.drop k)).length := by rw [hinv.out, List.length_append]
      have hki : (k : Int) < (n : Int) := by omega
      replace hz := hidI hz
      have hpre : ∀ (o t : List Int), R = o ++ t → o.length ≤ n + 1 := by
        intro o t hh
        have : R.length = o.length + t.length := by rw [hh, List.length_append]
        omega
      rw [hdr] at hinv
      clear hrl
      have hpre2 := hol
      replace hpre := hidI hpre
      replace hdr := hidI hdr
      replace hk := hidI hk
      rcases Int.lt_trichotomy z x with hzx | hzx | hzx
      · have t1 : (z == x) = false := by rw [beq_eq_false_iff_ne]; omega
        have t2 : ¬ x < z := by omega
        cases q with
        | true =>
          have hnx := hidI (show R = (o ++ [z]) ++ (if true = true then zs.drop (k + 1) else addZ x (zs.drop (k + 1))) by rw [hinv.out]; simp)
          go_wp2_with (at_builtin; go_must (refine wpList_pushI rfl _ _ rfl w.heap.size _ (o) _ rfl rfl (by exact hown.out) (by have := hal; have := hpre2; simp; omega) hb.out.size ?_))
          intro v' w' hown' hb'
          replace hown' := hidI hown'
          replace hb' := hidI (hb.out.trans hb')
          clear hown hb
          go_wp2
          go_roundg (n - (k + 1))
          case rel => exact ⟨k + 1, _, true, by have := hk.out; omega, by go_num, rfl, hpre.out _ _ hnx.out, hnx, hown', hb'⟩
          case measure => have := hk.out; omega
        | false =>
          have hnx := hidI (show R = (o ++ [z]) ++ (if false = true then zs.drop (k + 1) else addZ x (zs.drop (k + 1))) by rw [hinv.out]; simp [addZ_lt _ hzx])
          go_wp2_with (at_builtin; go_must (refine wpList_pushI rfl _ _ rfl w.heap.size _ (o) _ rfl rfl (by exact hown.out) (by have := hal; have := hpre2; simp; omega) hb.out.size ?_))
          intro v' w' hown' hb'
          replace hown' := hidI hown'
          replace hb' := hidI (hb.out.trans hb')
          clear hown hb
          go_wp2
          go_roundg (n - (k + 1))
          case rel => exact ⟨k + 1, _, false, by have := hk.out; omega, by go_num, rfl, hpre.out _ _ hnx.out, hnx, hown', hb'⟩
          case measure => have := hk.out; omega
      · have t1 : (z == x) = true := by rw [beq_iff_eq]; exact hzx
        have t2 : ¬ x < z := by omega
        cases q with
        | true =>
          have hnx := hidI (show R = (o ++ [z]) ++ (if true = true then zs.drop (k + 1) else addZ x (zs.drop (k + 1))) by rw [hinv.out]; simp)
          replace hzx := hidI hzx
          go_wp2_with (at_builtin; go_must (refine wpList_pushI rfl _ _ rfl w.heap.size _ (o) _ rfl rfl (by exact hown.out) (by have := hal; have := hpre2; simp; omega) hb.out.size ?_))
          intro v' w' hown' hb'
          replace hown' := hidI hown'
          replace hb' := hidI (hb.out.trans hb')
          clear hown hb
          go_wp2
          go_roundg (n - (k + 1))
          case rel => exact ⟨k + 1, _, true, by have := hk.out; omega, by go_num, rfl, hpre.out _ _ hnx.out, hnx, hown', hb'⟩
          case measure => have := hk.out; omega
        | false =>
          have hnx := hidI (show R = (o ++ [z]) ++ (if true = true then zs.drop (k + 1) else addZ x (zs.drop (k + 1))) by rw [hinv.out]; simp [addZ_eq _ hzx])
          replace hzx := hidI hzx
          go_wp2_with (at_builtin; go_must (refine wpList_pushI rfl _ _ rfl w.heap.size _ (o) _ rfl rfl (by exact hown.out) (by have := hal; have := hpre2; simp; omega) hb.out.size ?_))
          intro v' w' hown' hb'
          replace hown' := hidI hown'
          replace hb' := hidI (hb.out.trans hb')
          clear hown hb
          go_wp2
          go_roundg (n - (k + 1))
          case rel => exact ⟨k + 1, _, true, by have := hk.out; omega, by go_num, rfl, hpre.out _ _ hnx.out, hnx, hown', hb'⟩
          case measure => have := hk.out; omega
      · have t1 : (z == x) = false := by rw [beq_eq_false_iff_ne]; omega
        have t2 : x < z := hzx
        cases q with
        | true =>
          have hnx := hidI (show R = (o ++ [z]) ++ (if true = true then zs.drop (k + 1) else addZ x (zs.drop (k + 1))) by rw [hinv.out]; simp)
          go_wp2_with (at_builtin; go_must (refine wpList_pushI rfl _ _ rfl w.heap.size _ (o) _ rfl rfl (by exact hown.out) (by have := hal; have := hpre2; simp; omega) hb.out.size ?_))
          intro v' w' hown' hb'
          replace hown' := hidI hown'
          replace hb' := hidI (hb.out.trans hb')
          clear hown hb
          go_wp2
          go_roundg (n - (k + 1))
          case rel => exact ⟨k + 1, _, true, by have := hk.out; omega, by go_num, rfl, hpre.out _ _ hnx.out, hnx, hown', hb'⟩
          case measure => have := hk.out; omega
        | false =>
          have hnx := hidI (show R = (o ++ [x, z]) ++ (if true = true then zs.drop (k + 1) else addZ x (zs.drop (k + 1))) by rw [hinv.out]; simp [addZ_gt _ hzx])
          go_wp2_with (at_builtin; go_must (refine wpList_pushI rfl _ _ rfl w.heap.size _ (o) _ rfl rfl (by exact hown.out) (by have := hal; have := hpre2; simp; omega) hb.out.size ?_))
          intro v' w' hown' hb'
          replace hcell := below_cell hcell hb' hB
          replace hown' := hidI hown'
          replace hb' := hidI (hb.out.trans hb')
          clear hown hb
          obtain ⟨a2, m2, c2, rfl⟩ := OwnsI.form4 hown'.out
          have hown := hown'
          have hb := hb'
          clear hown' hb'
          go_wp2_with (at_builtin; go_must (refine wpList_pushI rfl _ _ rfl w.heap.size _ (o ++ [x]) _ rfl rfl (by exact hown.out) (by have := hal; have := hpre2; simp; omega) hb.out.size ?_))
          intro v' w' hown' hb'
          replace hown' := hidI hown'
          replace hb' := hidI (hb.out.trans hb')
          clear hown hb
          go_wp2
          go_roundg (n - (k + 1))
          case rel => exact ⟨k + 1, _, true, by have := hk.out; omega, by go_num, rfl, hpre.out _ _ hnx.out, hnx, hown', hb'⟩
          case measure => have := hk.out; omega
    · obtain rfl : k = n := by omega
      have hki : ¬ (k : Int) < (k : Int) := by omega
      have hdn : zs.drop k = [] := List.drop_eq_nil_of_le (by rw [← hn.out]; exact Nat.le_refl _)
      rw [hdn] at hinv
      cases q with
      | true =>
        have hRo : R = o := by rw [hinv.out]; simp
        replace hRo := hidI hRo
        go_wp2
        go_ret
        rw [hRo.out]
        exact intsRet_owns hown.out hb.out (Nat.le_refl _) (by omega)
      | false =>
        have hRo : R = o ++ [x] := by rw [hinv.out]; rfl
        replace hRo := hidI hRo
        go_wp2_with (at_builtin; go_must (refine wpList_pushI rfl _ _ rfl w.heap.size _ o _ rfl rfl (by exact hown.out) (by omega) hb.out.size ?_))
        intro v' w' hown' hb'
        replace hown' := hidI hown'
        go_wp2
        go_ret
        rw [hRo.out]
        exact intsRet_owns hown'.out (hb.out.trans hb') (Nat.le_refl _) (by simp; omega)
end Go.Proofs.Ytmecdboeckmmfaa
