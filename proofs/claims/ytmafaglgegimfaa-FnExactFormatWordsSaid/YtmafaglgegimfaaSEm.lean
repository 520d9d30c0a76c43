/- Texts of lists of words: mathematics, and FormatWords of the model (tools/se.py). -/
import Derived.Test.YtmafaglgegimfaaSB
import Derived.Test.YtmafaglgegimfaaWK
import Derived.Lib.Join
namespace Go.Proofs.Ytmafaglgegimfaa
open Go.RowKit
set_option linter.unusedVariables false
set_option linter.unusedSimpArgs false

theorem jn_snoc {xs : List (List UInt8)} {y : List UInt8} (h : xs ≠ []) : Lib.join (xs ++ [y]) [44] = Lib.join xs [44] ++ [44] ++ y := by
  obtain ⟨x, r, rfl⟩ := List.exists_cons_of_ne_nil h
  rw [List.cons_append, Lib.join_cons, Lib.join_cons]
  simp [Lib.joinTail]
theorem jn_ne {xs : List (List UInt8)} (h : xs ≠ []) (hx : ∀ x ∈ xs, x ≠ []) : Lib.join xs [44] ≠ [] := by
  obtain ⟨x, r, rfl⟩ := List.exists_cons_of_ne_nil h
  rw [Lib.join_cons]
  intro e
  exact hx x List.mem_cons_self (List.append_eq_nil_iff.1 e).1
theorem lens_fmt : ∀ zss : List (List Int), Lib.lens (zss.map fmtW) ≤ totL zss + zss.length := by
  intro zss
  induction zss with
  | nil => simp [Lib.lens]
  | cons z zss ih =>
    have := fmtW_length z
    unfold Lib.lens totL at ih ⊢
    simp only [List.map_cons, List.sum_cons, List.length_cons, sumN] at ih ⊢
    omega
theorem jn_length (zss : List (List Int)) : (Lib.join (zss.map fmtW) [44]).length ≤ totL zss + 2 * zss.length := by
  cases zss with
  | nil => simp [Lib.join_nil]
  | cons z zss =>
    have h1 := lens_fmt (z :: zss)
    rw [List.map_cons] at h1
    rw [List.map_cons, Lib.join_length]
    simp only [List.length_map, List.length_cons, List.length_nil] at h1 ⊢
    omega
theorem totL_take_le (zss : List (List Int)) (k : Nat) : totL (zss.take k) ≤ totL zss := by
  unfold totL
  rw [List.map_take]
  exact sumN_le _ k
/-- The text of a list of words. -/
def fmtWs (zss : List (List Int)) : List UInt8 := if zss = [] then [110, 111, 110, 101] else if zss.all (fun z => !(fmtW z).isEmpty) = true then Lib.join (zss.map fmtW) [44] else []
theorem fmtWs_bad {zss : List (List Int)} {i : Nat} (hi : i < zss.length) (h : fmtW (zss.getD i []) = []) : fmtWs zss = [] := by
  unfold fmtWs
  rw [if_neg (by intro e; rw [e] at hi; simp at hi), if_neg]
  intro ha
  rw [List.all_eq_true] at ha
  have := ha (zss.getD i []) (by rw [List.getD_eq_getElem?_getD, List.getElem?_eq_getElem hi]; exact List.getElem_mem hi)
  rw [h] at this
  cases this
theorem fmtWs_good {zss : List (List Int)} (h0 : zss ≠ []) (h : ∀ i, i < zss.length → fmtW (zss.getD i []) ≠ []) : fmtWs zss = Lib.join (zss.map fmtW) [44] := by
  unfold fmtWs
  rw [if_neg h0, if_pos]
  rw [List.all_eq_true]
  intro z hz
  obtain ⟨i, hi, rfl⟩ := List.getElem_of_mem hz
  have := h i hi
  rw [List.getD_eq_getElem?_getD, List.getElem?_eq_getElem hi] at this
  cases hf : fmtW zss[i] with
  | nil => exact absurd hf this
  | cons a b => rfl
theorem fmt_take {zss : List (List Int)} {k : Nat} (h : k < zss.length) : (zss.take (k + 1)).map fmtW = (zss.take k).map fmtW ++ [fmtW (zss.getD k [])] := by
  rw [List.take_add_one, List.getElem?_eq_getElem h, List.map_append, List.getD_eq_getElem?_getD, List.getElem?_eq_getElem h]
  rfl
theorem txt_ne {L : List UInt8} (h : L ≠ []) : (⟨L.toArray⟩ : ByteArray).toList.isEmpty = false := by
  rw [ByteArray.toList_mk, List.isEmpty_eq_false_iff]
  simpa using h
theorem txt_size (L : List UInt8) : (⟨L.toArray⟩ : ByteArray).size = L.length := by
  show L.toArray.size = _
  simp
set_option maxHeartbeats 3200000 in
theorem specFmtWs (w : World) (v : Value) (zss : List (List Int)) (h : ReadSS w.heap.size w v zss) (hs : zss.length + totL zss ≤ 1048576) :
    Calls Try.prog 36 #[v] w (StrRet w (fmtWs zss)) := by
  have h' := h
  obtain ⟨hl, a, cap, rfl, _, _⟩ := h'
  obtain ⟨n, hn⟩ : ∃ n, n = zss.length := ⟨_, rfl⟩
  rw [← hn] at hl h hs
  have hzl : ∀ i, i < n → (zss.getD i []).length ≤ 100000000 := fun i hi => by
    have h1 := sumN_getD (zss.map List.length) i (by rw [List.length_map]; omega)
    rw [getD_map_len] at h1
    have h2 : sumN (zss.map List.length) = totL zss := rfl
    omega
  replace hn := hidI hn
  replace h := hidI h
  replace hzl := hidI hzl
  replace hs := hidI hs
  go_enter Try.func36, Try.ntmps36
  rw [← hn.out]
  go_wp2
  go_loopg [3, 4, 5] n (fun g s i x wr => ∃ k : Nat, k + g = n ∧ i = .int .i64 k ∧ s = .string ⟨(Lib.join ((zss.take k).map fmtW) [44]).toArray⟩ ∧ Hid (∀ i, i < k → fmtW (zss.getD i []) ≠ []) ∧ Hid (Below w.heap.size w wr))
  case atStart => exact ⟨0, by omega, rfl, rfl, hidI (fun i h => by omega), hidI (Below.refl _ _)⟩
  case round =>
    obtain ⟨k, hk, rfl, rfl, hall, hb⟩ := hrel
    by_cases hlt : k < n
    · have hki : (k : Int) < (n : Int) := by omega
      obtain ⟨b, off, u, rfl, hB, c, r⟩ := (h.out.below hb.out).at_ k (by have := hn.out; omega)
      have hcall := specFmt wr u (zss.getD k []) (r.mono hb.out.size) (hzl.out k hlt)
      have hstep := fmt_take (zss := zss) (k := k) (by have := hn.out; omega)
      have hjl := jn_length (zss.take k)
      have htl := totL_take_le zss k
      have hfl := fmtW_length (zss.getD k [])
      have hzk := hzl.out k hlt
      rw [List.length_take] at hjl
      obtain ⟨T, hT⟩ : ∃ T : ByteArray, T = ⟨(fmtW (zss.getD k [])).toArray⟩ := ⟨_, rfl⟩
      have hTs : T.size = (fmtW (zss.getD k [])).length := by rw [hT]; exact txt_size _
      unfold StrRet at hcall
      rw [← hT] at hcall
      clear r
      by_cases hf : fmtW (zss.getD k []) = []
      · have hbad := hidI (fmtWs_bad (zss := zss) (i := k) (by have := hn.out; omega) hf)
        have hTe : T = ⟨#[]⟩ := by rw [hT, hf]
        subst hTe
        obtain ⟨S, hS⟩ : ∃ S : ByteArray, S = ⟨(Lib.join ((zss.take k).map fmtW) [44]).toArray⟩ := ⟨_, rfl⟩
        have hSs : S.size = (Lib.join ((zss.take k).map fmtW) [44]).length := by rw [hS]; exact txt_size _
        have hSb : S.size + 1 ≤ 9223372036854775807 := by have := hs.out; omega
        rw [← hS]
        replace hS := hidI hS
        replace hSs := hidI hSs
        replace hf := hidI hf
        replace hT := hidI hT
        replace hTs := hidI hTs
        replace hstep := hidI hstep
        replace hjl := hidI hjl
        replace htl := hidI htl
        replace hfl := hidI hfl
        replace hzk := hidI hzk
        replace hk := hidI hk
        by_cases hk0 : (0 : Int) < (k : Int)
        · go_wp2_with fail
          refine hcall.mono ?_
          rintro e w1 ⟨rfl, hb1⟩
          have hbq := hb.out.trans (hb1.mono hb.out.size)
          clear hcall hb1
          go_wp2
          go_ret
          exact ⟨ret_s (by rw [hbad.out]), hbq⟩
        · obtain rfl : k = 0 := by omega
          rw [Nat.add_zero] at c
          go_wp2_with fail
          refine hcall.mono ?_
          rintro e w1 ⟨rfl, hb1⟩
          have hbq := hb.out.trans (hb1.mono hb.out.size)
          clear hcall hb1
          go_wp2
          go_ret
          exact ⟨ret_s (by rw [hbad.out]), hbq⟩
      · have hTi : T.toList.isEmpty = false := by rw [hT]; exact txt_ne hf
        have hnx : Hid (∀ i, i < k + 1 → fmtW (zss.getD i []) ≠ []) := hidI fun i hi => by
          by_cases e : i = k
          · subst e; exact hf
          · exact hall.out i (by omega)
        obtain ⟨S, hS⟩ : ∃ S : ByteArray, S = ⟨(Lib.join ((zss.take k).map fmtW) [44]).toArray⟩ := ⟨_, rfl⟩
        have hSs : S.size = (Lib.join ((zss.take k).map fmtW) [44]).length := by rw [hS]; exact txt_size _
        have hSb : S.size + 1 ≤ 9223372036854775807 := by have := hs.out; omega
        by_cases hk0 : (0 : Int) < (k : Int)
        · have hnext : S ++ ⟨#[44]⟩ ++ T = ⟨(Lib.join ((zss.take (k + 1)).map fmtW) [44]).toArray⟩ := by
            rw [hstep, jn_snoc (by
              intro e
              have := congrArg List.length e
              rw [List.length_map, List.length_take] at this
              have h8 : min k zss.length = 0 := this
              have := hn.out
              omega), hS, hT]
            apply ByteArray.ext
            simp
          obtain ⟨S1, hS1⟩ : ∃ z : ByteArray, z = S ++ ⟨#[44]⟩ := ⟨_, rfl⟩
          have hS1s : S1.size = S.size + 1 := by rw [hS1, ByteArray.size_append]; rfl
          have hS1b : S1.size + T.size ≤ 9223372036854775807 := by have := hs.out; omega
          rw [← hS1] at hnext
          rw [← hS]
          have hS1' := hS1.symm
          replace hnext := hidI hnext
          replace hS := hidI hS
          replace hS1 := hidI hS1
          replace hSs := hidI hSs
          replace hS1s := hidI hS1s
          replace hf := hidI hf
          replace hT := hidI hT
          replace hTs := hidI hTs
          replace hstep := hidI hstep
          replace hjl := hidI hjl
          replace htl := hidI htl
          replace hfl := hidI hfl
          replace hzk := hidI hzk
          replace hk := hidI hk
          go_wp2_with fail
          refine hcall.mono ?_
          rintro e w1 ⟨rfl, hb1⟩
          have hbq := hidI (hb.out.trans (hb1.mono hb.out.size))
          clear hcall hb1
          go_wp2
          go_roundg (n - (k + 1))
          case rel => exact ⟨k + 1, by have := hk.out; omega, by go_num, by rw [← hnext.out], hnx, hbq⟩
          case measure => have := hk.out; omega
        · obtain rfl : k = 0 := by omega
          rw [Nat.add_zero] at c
          have hS0 : S = ⟨#[]⟩ := hS
          have hnext : T = ⟨(Lib.join ((zss.take (0 + 1)).map fmtW) [44]).toArray⟩ := by
            rw [hstep, List.take_zero, List.map_nil, List.nil_append, Lib.join_one, hT]
          have hadd : (⟨#[]⟩ : ByteArray) ++ T = T := by apply ByteArray.ext; simp
          rw [List.take_zero]
          replace hnext := hidI hnext
          replace hSs := hidI hSs
          replace hf := hidI hf
          replace hT := hidI hT
          have hTb2 : (⟨#[]⟩ : ByteArray).size + T.size ≤ 9223372036854775807 := by
            have : (⟨#[]⟩ : ByteArray).size = 0 := rfl
            omega
          replace hTs := hidI hTs
          replace hS := hidI hS
          replace hS0 := hidI hS0
          replace hstep := hidI hstep
          replace hjl := hidI hjl
          replace htl := hidI htl
          replace hfl := hidI hfl
          replace hzk := hidI hzk
          replace hk := hidI hk
          simp only [List.map_nil, Lib.join_nil]
          go_wp2_with fail
          refine hcall.mono ?_
          rintro e w1 ⟨rfl, hb1⟩
          have hbq := hidI (hb.out.trans (hb1.mono hb.out.size))
          clear hcall hb1
          go_wp2
          go_roundg (n - (0 + 1))
          case rel => exact ⟨0 + 1, by have := hk.out; omega, by go_num, by rw [← hnext.out]; try simp only [hadd], hnx, hbq⟩
          case measure => have := hk.out; omega
    · obtain rfl : k = n := by omega
      have hki : ¬ (k : Int) < (k : Int) := by omega
      have hfull : zss.take k = zss := List.take_of_length_le (by have := hn.out; omega)
      rw [hfull]
      replace hk := hidI hk
      by_cases h0 : zss = []
      · have hr : StrRet w (fmtWs zss) (.returned (.string ⟨#[110, 111, 110, 101]⟩)) wr := ⟨by rw [h0]; rfl, hb.out⟩
        have hj0 : Lib.join (zss.map fmtW) [44] = [] := by rw [h0]; rfl
        rw [hj0]
        replace hr := hidI hr
        replace hj0 := hidI hj0
        replace h0 := hidI h0
        replace hfull := hidI hfull
        go_wp2
        go_ret
        exact hr.out
      · have hg := fmtWs_good h0 (fun i hi => hall.out i (by have := hn.out; omega))
        have hjne : Lib.join (zss.map fmtW) [44] ≠ [] := jn_ne (by intro e; exact h0 (List.map_eq_nil_iff.1 e)) (fun x hx => by
          obtain ⟨z, hz, rfl⟩ := List.mem_map.1 hx
          obtain ⟨i, hi, rfl⟩ := List.getElem_of_mem hz
          have := hall.out i (by have := hn.out; omega)
          rwa [List.getD_eq_getElem?_getD, List.getElem?_eq_getElem hi] at this)
        obtain ⟨S, hS⟩ : ∃ S : ByteArray, S = ⟨(Lib.join (zss.map fmtW) [44]).toArray⟩ := ⟨_, rfl⟩
        have hSi : S.toList.isEmpty = false := by rw [hS]; exact txt_ne hjne
        rw [← hS]
        have hr : StrRet w (fmtWs zss) (.returned (.string S)) wr := ⟨by rw [hg, hS], hb.out⟩
        replace hr := hidI hr
        replace hS := hidI hS
        replace hg := hidI hg
        replace hjne := hidI hjne
        replace h0 := hidI h0
        replace hfull := hidI hfull
        go_wp2
        go_ret
        exact hr.out
end Go.Proofs.Ytmafaglgegimfaa
