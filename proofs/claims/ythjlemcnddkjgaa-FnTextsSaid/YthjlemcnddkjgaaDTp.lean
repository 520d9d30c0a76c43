/- Drawn texts of words: DrawParseWord; what FnTexts needs of the mathematics. -/
import Derived.Test.YthjlemcnddkjgaaDTs
import Derived.Test.YthjlemcnddkjgaaDWb
import Derived.Test.YthjlemcnddkjgaaWK
import Derived.Test.YthjlemcnddkjgaaWQ
import Derived.Test.YthjlemcnddkjgaaWI
namespace Go.Proofs.Ythjlemcnddkjgaa
open Go.RowKit
set_option linter.unusedVariables false

/-- A rank and a text come back. -/
def RankText1 (w : World) (e : Ending) (w' : World) : Prop :=
  ∃ (r : Int) (S : ByteArray), -1 ≤ r ∧ r ≤ 4 ∧ S.size ≤ 1000 ∧ e = .returned (.tuple #[.int .i64 r, .string S]) ∧ Below w.heap.size w w'
set_option maxHeartbeats 1600000 in
theorem drawPar_any (w : World) (a : Option Addr) (len cap : Nat) (hcode : CodeIn w.heap.size w a len) :
    Calls Try.prog 42 #[.slice a len cap] w (RankText1 w) := by
  have hnew := new_in w a len cap hcode
  replace hcode := hidI hcode
  go_enter Try.func42, Try.ntmps42
  go_wp2_with fail
  refine hnew.mono ?_
  rintro e w1 ⟨g, rfl, hb1, hd1⟩
  have hany := any_in hd1
  replace hd1 := hidI hd1
  clear hnew
  go_wp2_with fail
  refine hany.mono ?_
  rintro e w2 ⟨r, v, z, hz, rfl, hown, hg2, hd2⟩
  have hb2 := hb1.trans (hd1.out.below hg2)
  have hsm := hz.2.2
  have hr1 := hz.1
  have hr4 := hz.2.1
  have hfmt := specFmt w2 v z (small_row hown hsm (by omega)) (by have := hsm.2; omega)
  have hfl : (fmtW z).length ≤ 10 := by have := fmtW_length z; have := hsm.2; omega
  obtain ⟨T, hT⟩ : ∃ T : ByteArray, T = ⟨(fmtW z).toArray⟩ := ⟨_, rfl⟩
  have hTs : T.size ≤ 10 := by rw [hT]; show (fmtW z).toArray.size ≤ 10; rw [List.size_toArray]; exact hfl
  unfold StrRet at hfmt
  rw [← hT] at hfmt
  replace hT := hidI hT
  replace hz := hidI hz
  replace hsm := hidI hsm
  replace hown := hidI hown
  replace hd2 := hidI hd2
  clear hany hg2 hb1 hfl
  go_wp2_with fail
  refine hfmt.mono ?_
  rintro e w3 ⟨rfl, hb3'⟩
  have hb3 := hb2.trans (hb3'.mono hb2.size)
  have hd3 := hd2.out.over hb3' hd2.out.lt
  have hbel := below_in hd3 5 5 rfl (by omega) (by omega)
  replace hd3 := hidI hd3
  clear hfmt hb3' hd2 hb2
  go_wp2_with fail
  refine hbel.mono ?_
  rintro e w4 ⟨d, ⟨hd0, hd4⟩, rfl, hg4, hd4'⟩
  have hb4 := hb3.trans (hd3.out.below hg4)
  clear hbel hg4 hb3 hd3
  by_cases e0 : d = 0
  · subst e0
    have hsp := spoil_in hd4' T 10 hTs (by omega)
    replace hd4' := hidI hd4'
    go_wp2_with fail
    refine hsp.mono ?_
    rintro e w5 ⟨S, hS, rfl, hg5, hd5⟩
    have hr : RankText1 w (.returned (.tuple #[.int .i64 r, .string S])) w5 := ⟨r, S, by omega, by omega, by omega, rfl, hb4.trans (hd4'.out.below hg5)⟩
    replace hr := hidI hr
    clear hsp hS hg5 hd5
    go_wp2
    go_ret2
    exact hr.out
  · have f0 : (d == 0) = false := by rw [beq_eq_false_iff_ne]; exact e0
    by_cases e1 : d = 1
    · subst e1
      obtain ⟨C, hC⟩ : ∃ C : Array Value, C = #[.string ⟨#[]⟩, .string ⟨#[49]⟩, .string ⟨#[49, 49]⟩, .string ⟨#[97, 65]⟩, .string ⟨#[100]⟩, .string ⟨#[97, 98, 32, 99]⟩, .string ⟨#[97, 49]⟩] := ⟨_, rfl⟩
      have hpick := pickText_in 4 (hd4'.alloc (.cells C 9)) w4.heap.size 7 (by omega) (by omega) (by have := hd4'.lt; omega) (ptexts_lit 4 w4 [⟨#[]⟩, ⟨#[49]⟩, ⟨#[49, 49]⟩, ⟨#[97, 65]⟩, ⟨#[100]⟩, ⟨#[97, 98, 32, 99]⟩, ⟨#[97, 49]⟩] _ hC (by decide))
      have hga := World.grownBy_alloc w4 (.cells C 9) (some g)
      have hda := hd4'.alloc (.cells C 9)
      rw [hC] at hpick hga hda
      replace hga := hidI hga
      replace hda := hidI hda
      replace hd4' := hidI hd4'
      go_wp2_with fail
      refine hpick.mono ?_
      rintro e w5 ⟨S, hS, rfl, hg5, hd5⟩
      have hr : RankText1 w (.returned (.tuple #[.int .i64 r, .string S])) w5 := ⟨r, S, by omega, by omega, by omega, rfl, hb4.trans (hd4'.out.below (grown_trans hga.out hg5))⟩
      replace hr := hidI hr
      clear hpick hS hg5 hd5
      go_wp2
      go_ret2
      exact hr.out
    · have f1 : (d == 1) = false := by rw [beq_eq_false_iff_ne]; exact e1
      have hr : RankText1 w (.returned (.tuple #[.int .i64 r, .string T])) w4 := ⟨r, T, by omega, by omega, by omega, rfl, hb4⟩
      replace hr := hidI hr
      replace hd4' := hidI hd4'
      clear e0 e1
      go_wp2
      go_ret2
      exact hr.out
theorem chr_ne_49 {x : Int} (h : lettB x = true) : chr x ≠ 49 := by
  obtain ⟨h0, h1, h2⟩ := lettB_iff.1 h
  intro e
  have : ((chr x).toNat : Int) = 49 := by rw [e]; rfl
  by_cases hn : x < 0
  · rw [chr_neg hn h1] at this; omega
  · rw [chr_pos (by omega) h2] at this; omega
theorem isW_lett {r : Int} {z : List Int} (h : isW r z = true) : ∀ i, i < z.length → lettB (z.getD i 0) = true := by
  unfold isW at h
  rw [decide_eq_true_eq] at h
  intro i hi
  have hk := h.1 i hi
  unfold okAt at hk
  rw [ng_of (by omega) (by omega)] at hk
  exact lettB_iff.2 (by omega)
/-- A word is read back from its text. -/
theorem par_fmt (r : Int) (z : List Int) : parOk r (fmtW z) = isW r z ∧ (isW r z = true → parL r (fmtW z) = z) := by
  by_cases h0 : z = []
  · subst h0
    rw [fmtW_nil, parOk_unit, parL_unit]
    exact ⟨rfl, fun _ => rfl⟩
  · by_cases hall : ∀ i, i < z.length → lettB (z.getD i 0) = true
    · have hf := fmtW_good h0 hall
      have hmem : ∀ x ∈ z, lettB x = true := by
        intro x hx
        obtain ⟨i, hi, rfl⟩ := List.mem_iff_getElem.1 hx
        have := hall i hi
        simpa [List.getD_eq_getElem?_getD, hi] using this
      have hne : z.map chr ≠ [49] := by
        intro e
        cases z with
        | nil => exact h0 rfl
        | cons x t =>
          simp only [List.map_cons, List.cons.injEq] at e
          exact chr_ne_49 (hmem x List.mem_cons_self) e.1
      have hn0 : z.map chr ≠ [] := fun e => h0 (List.map_eq_nil_iff.1 e)
      have hun : (z.map chr).map unch = z := by
        rw [List.map_map]
        have : ∀ x ∈ z, (unch ∘ chr) x = id x := fun x hx => unch_chr (hmem x hx)
        rw [List.map_congr_left this, List.map_id]
      have hg : goodB (z.map chr) = true := by
        rw [goodB_at]
        intro c hc
        obtain ⟨x, hx, rfl⟩ := List.mem_map.1 hc
        rw [unch_chr (hmem x hx)]
        exact (lettB_iff.1 (hmem x hx)).1
      have hok : parOk r (z.map chr) = isW r z := by rw [parOk_word hne hn0 hg, hun]
      rw [hf]
      refine ⟨hok, fun h => ?_⟩
      rw [parL_good (by rw [hok]; exact h) hne, hun]
    · have hex : ∃ i, i < z.length ∧ lettB (z.getD i 0) = false := by
        apply Classical.byContradiction
        intro hc
        refine hall (fun i hi => ?_)
        cases h : lettB (z.getD i 0) with
        | true => rfl
        | false => exact absurd ⟨i, hi, h⟩ hc
      obtain ⟨i, hi, hb⟩ := hex
      have hw : isW r z = false := by
        cases h : isW r z with
        | false => rfl
        | true => exact absurd (isW_lett h) hall
      rw [fmtW_bad hi hb, parOk_nil, hw]
      exact ⟨rfl, fun h => by cases h⟩
theorem ordI_anti {x y : Int} (hx : -9223372036854775808 ≤ x ∧ x ≤ 9223372036854775807) (hy : -9223372036854775808 ≤ y ∧ y ≤ 9223372036854775807) : ordI y x = -(ordI x y) := by
  rw [ordI_cmp hx hy, ordI_cmp hy hx]
  unfold cmpZ
  by_cases h1 : (x.natAbs : Int) < (y.natAbs : Int)
  · rw [if_neg (show ¬ (y.natAbs : Int) < (x.natAbs : Int) by omega), if_pos h1, if_pos h1, if_neg (by omega), if_neg (by omega)]; rfl
  · by_cases h2 : (y.natAbs : Int) < (x.natAbs : Int)
    · rw [if_pos h2, if_neg h1, if_pos h2, if_neg (by omega), if_neg (by omega)]
    · simp only [if_neg h1, if_neg h2, if_true]
      by_cases h3 : x < y
      · rw [if_pos h3, if_neg (show ¬ y < x by omega), if_pos h3]
      · rw [if_neg h3]
        by_cases h4 : y < x
        · rw [if_pos h4, if_pos h4]; rfl
        · rw [if_neg h4, if_neg h4, if_neg h3]; rfl
theorem ordI_bd {x y : Int} : -1 ≤ ordI x y ∧ ordI x y ≤ 1 := by
  unfold ordI
  split
  · omega
  · split
    · omega
    · split
      · omega
      · split <;> omega
theorem cmpL_anti : ∀ {a b : List Int}, InR a → InR b → cmpL b a = -(cmpL a b) ∧ -1 ≤ cmpL a b ∧ cmpL a b ≤ 1 := by
  intro a
  induction a with
  | nil => intro b _ _; cases b <;> simp [cmpL]
  | cons x a ih =>
    intro b ha hb
    cases b with
    | nil => simp [cmpL]
    | cons y b =>
      have h1 := ordI_anti ha.head hb.head
      have h2 := ih ha.tail hb.tail
      have h3 := ordI_bd (x := x) (y := y)
      rw [cmpL, cmpL]
      by_cases h0 : ordI x y = 0
      · rw [if_pos h0, if_pos (by omega)]
        exact h2
      · rw [if_neg h0, if_neg (by omega)]
        exact ⟨h1, h3⟩
theorem cmpI_anti {a b : List Int} (ha : InR a) (hb : InR b) : cmpI b a = -(cmpI a b) ∧ -1 ≤ cmpI a b ∧ cmpI a b ≤ 1 := by
  unfold cmpI
  by_cases h1 : a.length < b.length
  · rw [if_pos h1, if_neg (by omega), if_pos h1]; omega
  · by_cases h2 : b.length < a.length
    · rw [if_neg h1, if_pos h2, if_pos h2]; omega
    · rw [if_neg h1, if_neg h2, if_neg h2, if_neg h1]
      exact cmpL_anti ha hb
end Go.Proofs.Ythjlemcnddkjgaa
