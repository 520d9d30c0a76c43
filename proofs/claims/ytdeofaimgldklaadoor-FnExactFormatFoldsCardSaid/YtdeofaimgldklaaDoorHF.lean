/- The laws' own helpers on Fold: toFold, eqFold, szFoldS. (tools/flat.py) Slices of Fold: toFoldS. (tools/flat.py) Slices of Fold: eqFoldS, markFoldS, heldFoldS. (tools/flat.py) Lists of Fold, and what the row's step knows of one or of a slice of them that came in. (tools/flat.py) Slices of Fold that a call made: push, push all. (tools/flat.py) -/
import Derived.Test.YtdeofaimgldklaaDoorGA
import Derived.Test.YtdeofaimgldklaaDoorGB
import Derived.Test.YtdeofaimgldklaaDoorGC
import Derived.Test.YtdeofaimgldklaaDoorGE
import Derived.Test.YtdeofaimgldklaaDoorHK
import Derived.Laws.AppendOwn
import Derived.Laws.AppendOwnNone
import Derived.Maps.AppendAt
namespace Go.Proofs.YtdeofaimgldklaaDoor
open Go.RowKit
set_option linter.unusedVariables false
set_option linter.unusedSimpArgs false

theorem infoFold : (Tryd.prog.info? 31).map (fun i => (i.zero, i.size, i.bytes)) = some (some (.agg #[.int .i64 0, .int .i64 0]), 2, 16) := by kernel_rfl
theorem sizeFold : (Tryd.prog.info? 31).map (·.size) = some 2 := by kernel_rfl
theorem toFold_any (w : World) (x0 x1 : Int) : Calls Tryd.prog 10 #[.agg #[.int .i64 x0, .int .i64 x1]] w fun x w' => x = .returned (.agg #[.int .i64 x0, .int .i64 x1]) ∧ Below w.heap.size w w' := by
  go_enter Tryd.func10, Tryd.ntmps10
  go_wp2
  (try simp only [Exit.inBlock, Exit.then])
  refine ret_cell rfl (g := w.heap.size + 1) rfl (heap_mid _ _ _ _) Tryd.underlying31 sizeFold ?_
  exact ⟨rfl, (((Below.refl _ _).alloc (Nat.le_refl _) _).alloc (by simp) _).alloc (by simp; omega) _⟩
theorem eqFold_any (w : World) (x0 x1 y0 y1 : Int) : Calls Tryd.prog 13 #[.agg #[.int .i64 x0, .int .i64 x1], .agg #[.int .i64 y0, .int .i64 y1]] w fun x w' => x = .returned (.bool (decide (x0 = y0 ∧ x1 = y1))) ∧ Below w.heap.size w w' := by
  obtain ⟨b, hb⟩ : ∃ b, b = decide (x0 = y0 ∧ x1 = y1) := ⟨_, rfl⟩
  rw [← hb]
  have hbl : Below w.heap.size w ((w.alloc (.cells #[.int .i64 x0, .int .i64 x1] 31)).alloc (.cells #[.int .i64 y0, .int .i64 y1] 31)) := ((Below.refl _ _).alloc (Nat.le_refl _) _).alloc (by simp) _
  by_cases h0 : x0 = y0
  · have g0 : (x0 != y0) = false := by rw [bne_eq_false_iff_eq]; exact h0
    by_cases h1 : x1 = y1
    · have g1 : (x1 != y1) = false := by rw [bne_eq_false_iff_eq]; exact h1
      have hbb : b = true := by rw [hb, decide_eq_true_eq]; exact ⟨h0, h1⟩
      replace hb := hidI hb
      replace h0 := hidI h0
      replace h1 := hidI h1
      replace hbb := hidI hbb
      go_enter Tryd.func13, Tryd.ntmps13
      go_wp2
      go_ret
      exact ⟨ret_bool hbb.out.symm, hbl⟩
    · have g1 : (x1 != y1) = true := by rw [bne_iff_ne]; exact h1
      have hbb : b = false := by rw [hb, decide_eq_false_iff_not]; exact fun h => h1 h.2
      replace hb := hidI hb
      replace h0 := hidI h0
      replace h1 := hidI h1
      replace hbb := hidI hbb
      go_enter Tryd.func13, Tryd.ntmps13
      go_wp2
      go_ret
      exact ⟨ret_bool hbb.out.symm, hbl⟩
  · have g0 : (x0 != y0) = true := by rw [bne_iff_ne]; exact h0
    have hbb : b = false := by rw [hb, decide_eq_false_iff_not]; exact fun h => h0 h.1
    replace hb := hidI hb
    replace h0 := hidI h0
    replace hbb := hidI hbb
    go_enter Tryd.func13, Tryd.ntmps13
    go_wp2
    go_ret
    exact ⟨ret_bool hbb.out.symm, hbl⟩
theorem szFoldS_any (w : World) (a : Option Addr) (n cap : Nat) (left : Int) (hn : (n : Int) ≤ 9223372036854775807) (hl0 : 0 ≤ left) (hl1 : left ≤ 1048576) :
    Calls Tryd.prog 4 #[.slice a n cap, .int .i64 left] w fun x w' => x = .returned (.int .i64 (if left < n then -1 else left - n)) ∧ w = w' := by
  by_cases h : left < (n : Int)
  · rw [if_pos h]
    have h2 : left - (n : Int) < 0 := by omega
    go_enter Tryd.func4, Tryd.ntmps4
    go_wp2
    go_ret
    exact ⟨rfl, rfl⟩
  · rw [if_neg h]
    have h2 : ¬ left - (n : Int) < 0 := by omega
    go_enter Tryd.func4, Tryd.ntmps4
    go_wp2
    go_ret
    exact ⟨rfl, rfl⟩
end Go.Proofs.YtdeofaimgldklaaDoor

namespace Go.Proofs.YtdeofaimgldklaaDoor
open Go.RowKit
set_option linter.unusedVariables false
set_option linter.unusedSimpArgs false

theorem made_F (n : Nat) : (madeCells #[.int .i64 0, .int .i64 0] (n * 2)).toList = (List.replicate (n * 2) (0 : Int)).map iv := by
  unfold madeCells
  apply List.ext_getElem?
  intro i
  simp only [Array.toList_map, Array.toList_range, List.getElem?_map, List.map_replicate]
  by_cases h : i < n * 2
  · have h3 : i % 2 < 2 := Nat.mod_lt _ (by omega)
    rw [List.getElem?_range h, List.getElem?_replicate, if_pos h]
    have e : i % 2 = 0 ∨ i % 2 = 1 := by omega
    rcases e with e | e <;> simp [e, iv]
  · rw [List.getElem?_eq_none (by simpa using h), List.getElem?_eq_none (by simpa using h)]
    rfl
/-- What a function that hands back a slice of Fold leaves. -/
def FsRet (w : World) (n : Nat) (zs : List Int) (e : Ending) (w' : World) : Prop :=
  ∃ v, e = .returned v ∧ RowS 31 2 w' w.heap.size w'.heap.size v n zs ∧ Below w.heap.size w w'
set_option maxHeartbeats 1600000 in
theorem toFoldS_any (w : World) (v : Value) (n : Nat) (zs : List Int) (h : ReadS 2 w.heap.size w v n zs) (hl : n ≤ 1000000000) :
    Calls Tryd.prog 6 #[v] w (FsRet w n zs) := by
  obtain ⟨a, cap, rfl, hnc⟩ := h.form
  obtain ⟨i0, hi, hz0, hz1, hz2⟩ := info_parts infoFold
  have hzl := h.1
  replace h := hidI h
  go_enter Tryd.func6, Tryd.ntmps6
  go_wp2_with (at_make; go_must (refine wpList_make_full _ rfl _ _ 25 rfl w.heap.size 31 i0 (.agg #[.int .i64 0, .int .i64 0]) 2 Tryd.underlying25 hi hz0 hz1 .i64 .i64 _ _ n rfl rfl rfl rfl ?c1 ?c2 ?c3 ?_))
  case c1 => rw [hz2]; omega
  case c2 => unfold maxLen; omega
  case c3 => exact Nat.le_refl _
  intro w1 hown hg
  rw [made_F] at hown
  have hb := (Below.refl w.heap.size w).grown hg (Nat.le_refl _) (by intro k hk; cases hk)
  clear hg hi hz0 hz1 hz2
  replace hown := hidI hown
  go_wp2
  go_loopg [4] n (fun g i wr => ∃ k : Nat, k + g = n ∧ i = .int .i64 k ∧ Hid (OwnsS 31 2 wr w.heap.size (.slice (some ⟨w.heap.size, 0, none⟩) n n) n (padS zs (k * 2))) ∧ Below w.heap.size w wr)
  case atStart => exact ⟨0, by omega, rfl, by rw [Nat.zero_mul, padS_zero, hzl]; exact hown, hb⟩
  case round =>
    clear hown hb
    obtain ⟨k, hk, rfl, hown, hb⟩ := hrel
    by_cases hlt : k < n
    · obtain ⟨b, off, rfl, hB, hc⟩ := (h.out.below hb).at_ k hlt
      have hc0 := hc 0 (by omega)
      have hc1 := hc 1 (by omega)
      rw [Nat.add_zero] at hc0
      rw [Nat.add_zero] at hc0
      obtain ⟨x0, hx0⟩ : ∃ z, z = zs.getD (k * 2) 0 := ⟨_, rfl⟩
      obtain ⟨x1, hx1⟩ : ∃ z, z = zs.getD (k * 2 + 1) 0 := ⟨_, rfl⟩
      rw [← hx0] at hc0
      rw [← hx1] at hc1
      have hlt2 : (k : Int) < (n : Int) := by omega
      replace hx0 := hidI hx0
      replace hx1 := hidI hx1
      replace hk := hidI hk
      clear hc
      have hcall := toFold_any wr x0 x1
      go_wp2_with fail
      refine hcall.mono ?_
      rintro e w2 ⟨rfl, hb2'⟩
      have hb2 := hb.trans (hb2'.mono hb.size)
      have hown2 := hown.out.later hb2' (Nat.le_refl _)
      obtain ⟨z0, hz0⟩ := hown2.cell (k * 2) (by omega)
      obtain ⟨z1, hz1⟩ := hown2.cell (k * 2 + 1) (by omega)
      have hf0 := hown2.frozen (k * 2)
      have hf1 := hown2.frozen (k * 2 + 1)
      have hst := ((hown2.put (k * 2) x0).put (k * 2 + 1) x1)
      rw [hx0.out, padS_step zs (k * 2) (by omega), hx1.out, padS_step zs (k * 2 + 1) (by omega), ← hx0.out, ← hx1.out, show k * 2 + 1 + 1 = (k + 1) * 2 by omega] at hst
      have hb3 := ((hb2.setCell (p := ⟨w.heap.size, k * 2, none⟩) (Nat.le_refl _) (.int .i64 x0)).setCell (p := ⟨w.heap.size, k * 2 + 1, none⟩) (Nat.le_refl _) (.int .i64 x1))
      replace hst := hidI hst
      replace hown2 := hidI hown2
      replace hb3 := hidI hb3
      clear hcall hown hb hb2 hb2' hc0 hc1
      go_wp2
      go_roundg (n - (k + 1))
      case rel => exact ⟨k + 1, by have := hk.out; omega, by go_num, hst, hb3.out⟩
      case measure => have := hk.out; omega
    · obtain rfl : k = n := by omega
      have hfull : padS zs (k * 2) = zs := by rw [← hzl]; exact padS_full zs
      rw [hfull] at hown
      have hr : FsRet w k zs (.returned (.slice (some ⟨w.heap.size, 0, none⟩) k k)) wr := ⟨_, rfl, OwnsS.row hown.out (by omega), hb⟩
      have hlt2 : ¬ (k : Int) < (k : Int) := by omega
      replace hr := hidI hr
      replace hfull := hidI hfull
      replace hk := hidI hk
      go_wp2
      go_ret
      exact hr.out
end Go.Proofs.YtdeofaimgldklaaDoor

namespace Go.Proofs.YtdeofaimgldklaaDoor
open Go.RowKit
set_option linter.unusedVariables false
set_option linter.unusedSimpArgs false

set_option maxHeartbeats 1600000 in
theorem eqFoldS_same (w : World) (v1 v2 : Value) (n : Nat) (zs : List Int) (h1 : ReadS 2 w.heap.size w v1 n zs) (h2 : ReadS 2 w.heap.size w v2 n zs) :
    Calls Tryd.prog 8 #[v1, v2] w (TellRet w true) := by
  obtain ⟨a1, cap1, rfl, hnc1⟩ := h1.form
  obtain ⟨a2, cap2, rfl, hnc2⟩ := h2.form
  have hzl := h1.1
  have hnl := h1.2.1
  have hcl : ((n : Int) != (n : Int)) = false := by simp
  replace h1 := hidI h1
  replace h2 := hidI h2
  replace hzl := hidI hzl
  go_enter Tryd.func8, Tryd.ntmps8
  go_wp2
  go_loopg [5] n (fun g i wr => ∃ k : Nat, k + g = n ∧ i = .int .i64 k ∧ Below w.heap.size w wr)
  case atStart => exact ⟨0, by omega, rfl, Below.refl _ _⟩
  case round =>
    obtain ⟨k, hk, rfl, hb⟩ := hrel
    by_cases hlt : k < n
    · obtain ⟨b1, off1, rfl, hB1, hc⟩ := (h1.out.below hb).at_ k hlt
      obtain ⟨b2, off2, rfl, hB2, hd⟩ := (h2.out.below hb).at_ k hlt
      have hc0 := hc 0 (by omega)
      have hc1 := hc 1 (by omega)
      have hd0 := hd 0 (by omega)
      have hd1 := hd 1 (by omega)
      rw [Nat.add_zero, Nat.add_zero] at hc0 hd0
      obtain ⟨x0, hx0⟩ : ∃ z, z = zs.getD (k * 2) 0 := ⟨_, rfl⟩
      obtain ⟨x1, hx1⟩ : ∃ z, z = zs.getD (k * 2 + 1) 0 := ⟨_, rfl⟩
      rw [← hx0] at hc0 hd0
      rw [← hx1] at hc1 hd1
      have hlt2 : (k : Int) < (n : Int) := by omega
      have hcall := eqFold_any wr.drew x0 x1 x0 x1
      rw [show decide (x0 = x0 ∧ x1 = x1) = true by simp] at hcall
      replace hx0 := hidI hx0
      replace hx1 := hidI hx1
      replace hk := hidI hk
      clear hc hd
      go_wp2
      go_region_with (go_at_call 13; (with_reducible refine hcall.mono ?_); rintro e w2 ⟨rfl, hb2'⟩)
      all_goals
        have hb2 := hb.drew.trans (hb2'.mono (show w.heap.size ≤ wr.drew.heap.size from hb.size))
        clear hb2' hb
        go_wp2
        go_roundg (n - (k + 1))
        case rel => exact ⟨k + 1, by have := hk.out; omega, by go_num, hb2⟩
        case measure => have := hk.out; omega
    · have hlt2 : ¬ (k : Int) < (n : Int) := by omega
      replace hk := hidI hk
      go_wp2
      go_ret
      exact ⟨rfl, hb⟩
/-- What markFoldS leaves. -/
def MarkF (w : World) (lo hi : Nat) (v : Value) (k : Int) (n : Nat) (e : Ending) (w' : World) : Prop :=
  e = .returned (.int .i64 (k + 2 * n)) ∧ RowS 31 2 w' lo hi v n (marks k (n * 2)) ∧ Only lo hi w w'
end Go.Proofs.YtdeofaimgldklaaDoor

namespace Go.Proofs.YtdeofaimgldklaaDoor
open Go.RowKit Go.ChangeShapes Go.WideShapes Go.Deep
set_option linter.unusedVariables false
set_option maxRecDepth 100000

abbrev tupF := Int × Int
def zeroF : tupF := (0, 0)
def flatF : List tupF → List Int
  | [] => []
  | e :: es => e.1 :: e.2 :: flatF es
theorem flatF_length : ∀ es : List tupF, (flatF es).length = es.length * 2 := by
  intro es
  induction es with
  | nil => rfl
  | cons e es ih => simp only [flatF, List.length_cons, ih]; omega
theorem flatF_append (a b : List tupF) : flatF (a ++ b) = flatF a ++ flatF b := by
  induction a with
  | nil => rfl
  | cons e a ih => simp only [List.cons_append, flatF, ih]
theorem flatF_at : ∀ (es : List tupF) (i : Nat), i < es.length → (flatF es).getD (i * 2) 0 = (es.getD i zeroF).1 ∧ (flatF es).getD (i * 2 + 1) 0 = (es.getD i zeroF).2 := by
  intro es
  induction es with
  | nil => intro i h; simp at h
  | cons e es ih =>
    intro i h
    cases i with
    | zero => simp [flatF]
    | succ i =>
      have := ih i (by simpa using h)
      rw [show (i + 1) * 2 = i * 2 + 1 + 1 by omega]
      simpa [flatF] using this
def InF (es : List tupF) : Prop := ∀ e ∈ es, (-9223372036854775808 ≤ e.1 ∧ e.1 ≤ 9223372036854775807) ∧ (-9223372036854775808 ≤ e.2 ∧ e.2 ≤ 9223372036854775807)
theorem InF.at_ {es : List tupF} (h : InF es) {i : Nat} (hi : i < es.length) : (-9223372036854775808 ≤ (es.getD i zeroF).1 ∧ (es.getD i zeroF).1 ≤ 9223372036854775807) ∧ (-9223372036854775808 ≤ (es.getD i zeroF).2 ∧ (es.getD i zeroF).2 ≤ 9223372036854775807) := by
  apply h
  rw [List.getD_eq_getElem?_getD, List.getElem?_eq_getElem hi]
  exact List.getElem_mem hi
abbrev ReadF (B : Nat) (w : World) (v : Value) (es : List tupF) : Prop := ReadS 2 B w v es.length (flatF es)
theorem ReadF.cells {B : Nat} {w : World} {a : Option Addr} {n cap : Nat} {es : List tupF} (h : ReadF B w (.slice a n cap) es) (i : Nat) (hi : i < es.length) :
    ∃ b off, a = some ⟨b, off, none⟩ ∧ b < B ∧ w.cell? ⟨b, off + i * 2, none⟩ = some (.int .i64 (es.getD i zeroF).1) ∧ w.cell? ⟨b, off + i * 2 + 1, none⟩ = some (.int .i64 (es.getD i zeroF).2) := by
  obtain ⟨b, off, ha, hB, hc⟩ := h.at_ i hi
  obtain ⟨h0, h1⟩ := flatF_at es i hi
  have c0 := hc 0 (by omega)
  rw [Nat.add_zero, Nat.add_zero, h0] at c0
  have c1 := hc 1 (by omega)
  rw [h1] at c1
  exact ⟨b, off, ha, hB, c0, c1⟩
/-- A slice that came in. -/
def IsRowF (w : World) (a : Option Addr) (len cap : Nat) (es : List tupF) : Prop :=
  (a = none ∧ len = 0 ∧ cap = 0 ∧ es = []) ∨ ∃ x, a = some x ∧ len ≤ cap ∧ cap ≤ maxLen ∧ es.length = len ∧ InF es ∧
    ∀ i, i < len → w.cell? (x.add (i * 2)) = some (.int .i64 (es.getD i zeroF).1) ∧ w.cell? (x.add (i * 2 + 1)) = some (.int .i64 (es.getD i zeroF).2)
theorem IsRowF.len {w : World} {a : Option Addr} {len cap : Nat} {es : List tupF} (h : IsRowF w a len cap es) : es.length = len ∧ InF es ∧ (len : Int) ≤ 9223372036854775807 := by
  rcases h with ⟨_, rfl, _, rfl⟩ | ⟨x, _, h1, h2, h3, h4, _⟩
  · exact ⟨rfl, (fun e h => by cases h), by omega⟩
  · exact ⟨h3, h4, by unfold maxLen at h2; omega⟩
theorem IsRowF.read {w : World} {a : Option Addr} {len cap : Nat} {es : List tupF} (h : IsRowF w a len cap es) (hl : len ≤ 1048576) : ReadF w.heap.size w (.slice a len cap) es := by
  rcases h with ⟨rfl, rfl, rfl, rfl⟩ | ⟨x, rfl, h1, h2, h3, h4, hc⟩
  · exact ⟨rfl, by simp, none, 0, rfl, ⟨fun _ => rfl, Nat.le_refl _⟩, .inl rfl⟩
  · refine ⟨flatF_length es, by omega, some x, cap, by rw [h3], ⟨(fun e => by cases e), by omega⟩, ?_⟩
    rcases Nat.eq_zero_or_pos len with h0 | h0
    · left; omega
    · right
      have c0 := (hc 0 h0).1
      obtain ⟨b, off, spot⟩ := x
      have hspot : spot = none := by simpa [Addr.add] using World.cell?_spot c0
      subst hspot
      refine ⟨b, off, rfl, ?_, fun k hk => ?_⟩
      · have c0' : w.cell? ⟨b, off, none⟩ = some (.int .i64 (es.getD 0 zeroF).1) := by simpa [Addr.add] using c0
        rcases Nat.lt_or_ge b w.heap.size with h1 | h1
        · exact h1
        · unfold World.cell? at c0'
          rw [show w.heap[(⟨b, off, none⟩ : Addr).block]? = none from Array.getElem?_eq_none h1] at c0'
          cases c0'
      · obtain ⟨i, j, hj, rfl⟩ : ∃ i j, j < 2 ∧ k = i * 2 + j := ⟨k / 2, k % 2, Nat.mod_lt _ (by omega), by omega⟩
        have hi : i < len := by omega
        obtain ⟨d0, d1⟩ := hc i hi
        obtain ⟨g0, g1⟩ := flatF_at es i (by omega)
        have key : ∀ m z, w.cell? ((⟨b, off, none⟩ : Addr).add m) = some (.int .i64 z) → w.cell? ⟨b, off + m, none⟩ = some (.int .i64 z) := by
          intro m z hm
          by_cases hm0 : m = 0
          · subst hm0; simpa [Addr.add] using hm
          · simpa [Addr.add, hm0] using hm
        have hjs : j = 0 ∨ j = 1 := by omega
        rcases hjs with rfl | rfl
        · rw [Nat.add_zero, g0]; exact key _ _ d0
        · rw [g1]; exact key _ _ d1
section
variable {H : Type} {enc : TypeId × Value → H} {W : World} {base : Nat} {v : Value} {d : DataW H} {p : List MemPlace}
theorem open_F {r : Reach} {b0 : Nat} (hv : Value.okWide Tryd.prog W r b0 33 v) (h : DataW.Trod enc Tryd.prog W 0 (fun _ => true) true 33 v d p) :
    ∃ x0 x1 : Int, v = .agg #[.int .i64 x0, .int .i64 x1] ∧ (Lit.int .i64 x0).wf = true ∧ (Lit.int .i64 x1).wf = true := by
  obtain ⟨v0, v1, q0, q1, n, rfl, _, _, t0, t1⟩ := Go.Joins.open_agg2 Tryd.underlying33 (by kernel_rfl) (by kernel_rfl) hv h
  obtain ⟨x0, hx0, _, w0⟩ := DataW.trod_int Tryd.underlying3 t0
  obtain ⟨x1, hx1, _, w1⟩ := DataW.trod_int Tryd.underlying3 t1
  simp only [List.cons.injEq, and_true] at hx0 hx1
  subst hx0 hx1
  exact ⟨x0, x1, rfl, w0, w1⟩
end
section
variable {H : Type} {enc : TypeId × Value → H} {W : World} {base : Nat} {v : Value} {d : DataW H} {p : List MemPlace}
theorem open_Fs {r : Reach} {b0 : Nat} (hv : Value.okWide Tryd.prog W r b0 22 v) (h : DataW.Trod enc Tryd.prog W 0 (fun _ => true) true 22 v d p) :
    ∃ (a : Option Addr) (len cap : Nat) (es : List tupF), v = .slice a len cap ∧ IsRowF W a len cap es := by
  obtain ⟨a, len, cap, rfl⟩ := okWide_slice Tryd.underlying22 hv
  obtain ⟨fuel, hf⟩ := h
  rcases open_slice Tryd.underlying22 hf with ⟨h2, _⟩ | ⟨x, l, c, m, n', D, Pl, h2, _, hlc, hcm, hm, _, hx⟩
  · simp [Value.cells] at h2
    obtain ⟨rfl, rfl, rfl⟩ := h2
    exact ⟨none, 0, 0, [], rfl, .inl ⟨rfl, rfl, rfl, rfl⟩⟩
  · simp [Value.cells] at h2
    obtain ⟨rfl, rfl, rfl⟩ := h2
    have hlm : len ≤ m := by rw [hm]; split <;> omega
    have ce : (Tryd.prog).cellsOf 33 = 2 := by kernel_rfl
    have c1 : (Tryd.prog).cellsOf 3 = 1 := by kernel_rfl
    have each : ∀ i, i < len → ∃ e : tupF, W.cell? (x.add (i * 2)) = some (.int .i64 e.1) ∧ W.cell? (x.add (i * 2 + 1)) = some (.int .i64 e.2) ∧ (Lit.int .i64 e.1).wf = true ∧ (Lit.int .i64 e.2).wf = true := by
      intro i hi
      obtain ⟨cs', h1, h2⟩ := hx i (by omega)
      rw [ce] at h1
      obtain ⟨_, hlen, hcell⟩ := World.cells?_some h1
      obtain ⟨k0, k1, n2, _, _, q0, q1⟩ := trod_struct2 Tryd.underlying33 h2
      match cs', hlen with
      | [v0, v1], _ =>
        simp [c1] at q0 q1
        obtain ⟨x0, hx0, _, w0⟩ := DataW.trod_int Tryd.underlying3 q0
        obtain ⟨x1, hx1, _, w1⟩ := DataW.trod_int Tryd.underlying3 q1
        simp only [List.cons.injEq, and_true] at hx0 hx1
        subst hx0 hx1
        have d0 := hcell 0 (by omega)
        have d1 := hcell 1 (by omega)
        rw [add_add] at d0 d1
        exact ⟨(x0, x1), by simpa using d0, by simpa using d1, w0, w1⟩
    obtain ⟨F, hF⟩ := choose_lt each
    refine ⟨some x, len, cap, (List.range len).map F, rfl, .inr ⟨x, rfl, hlc, hcm, by simp, ?_, fun i hi => ?_⟩⟩
    · intro e he
      obtain ⟨i, hi, rfl⟩ := List.mem_map.1 he
      obtain ⟨_, _, g0, g1⟩ := hF i (List.mem_range.1 hi)
      exact ⟨bounds_i64 g0, bounds_i64 g1⟩
    · have e : ((List.range len).map F).getD i zeroF = F i := by simp [List.getD_eq_getElem?_getD, hi]
      rw [e]
      obtain ⟨g0, g1, _⟩ := hF i hi
      exact ⟨g0, g1⟩
end
end Go.Proofs.YtdeofaimgldklaaDoor

namespace Go.Proofs.YtdeofaimgldklaaDoor
open Go.RowKit
set_option linter.unusedVariables false
set_option linter.unusedSimpArgs false

abbrev OwnsF (w : World) (base : Nat) (v : Value) (es : List tupF) : Prop := OwnsS 31 2 w base v es.length (flatF es)
abbrev valF (e : tupF) : Value := .agg #[.int .i64 e.1, .int .i64 e.2]
theorem OwnsF.litF (w : World) : OwnsF (w.alloc (.cells #[] 31)) w.heap.size (.slice (some ⟨w.heap.size, 0, none⟩) 0 0) [] := OwnsS.lit w
/-- out = append(out, e). -/
theorem wpList_pushF {w0 : World} {ops : Array Oper} {rest : List Oper} {o : Oper} {a : Act} {Q : Exit → Act → World → Prop} (hgd : o.guard = none) (s x : Operand)
    (ho : o.op = .call { callee := .builtin .append, args := #[s, x], argTypes := #[25, 25] }) (base : Nat) (v : Value) (es : List tupF) (x0 x1 : Int)
    (hs : a.eval s = v) (hx : a.eval x = .slice (some ⟨w0.heap.size, 0, none⟩) 1 1) (hown : OwnsF w0 base v es) (hl : es.length ≤ 4000000000000) (hbase : base ≤ w0.heap.size)
    (h : ∀ v' w', OwnsF w' base v' (es ++ [(x0, x1)]) → Below base w0 w' → wpList Tryd.prog ops Q rest (a.put o.dst v') w') :
    wpList Tryd.prog ops Q (o :: rest) a (w0.alloc (.cells #[.int .i64 x0, .int .i64 x1] 31)) := by
  obtain ⟨i0, hi, hz0, hz1, hz2⟩ := info_parts infoFold
  refine wpList_append_own _ hgd s x 25 ho base 31 i0 _ 2 16 Tryd.underlying25 hi hz0 hz1 hz2 rfl (by decide) v es.length ((flatF es).map iv) hs (World.ownsRow.alloc hown _) ⟨w0.heap.size, 0, none⟩ 1 1 [iv x0, iv x1] hx rfl ?_ ?_ ?_ ?_ ?_ ?_
  · intro j u hj
    have hk := heap_alloc_new w0 (.cells #[.int .i64 x0, .int .i64 x1] 31)
    rw [addr_plus, Nat.zero_add]
    have c := cell_of_heap hk j
    match j, hj with
    | 0, hj => simp at hj; subst hj; simp [iv]
    | 1, hj => simp at hj; subst hj; simp [iv]
  · intro u hu
    simp at hu
    rcases hu with rfl | rfl <;> rfl
  · unfold maxLen; omega
  · omega
  · simp; omega
  · intro v' w' ho' hg _
    refine h v' w' (by unfold OwnsF OwnsS; rw [flatF_append]; simpa [flatF] using ho') ?_
    exact ((Below.refl base w0).alloc hbase _).grown hg (by simp; omega) (fun k hk => (World.ownsRow.lt hown k hk).1)
/-- The same, and where the new row lies. -/
theorem wpList_pushF_at {w0 : World} {ops : Array Oper} {rest : List Oper} {o : Oper} {a : Act} {Q : Exit → Act → World → Prop} (hgd : o.guard = none) (s x : Operand)
    (ho : o.op = .call { callee := .builtin .append, args := #[s, x], argTypes := #[25, 25] }) (base : Nat) (v : Value) (es : List tupF) (x0 x1 : Int)
    (hs : a.eval s = v) (hx : a.eval x = .slice (some ⟨w0.heap.size, 0, none⟩) 1 1) (hown : OwnsF w0 base v es) (hl : es.length ≤ 4000000000000) (hbase : base ≤ w0.heap.size)
    (h : ∀ v' w', OwnsF w' base v' (es ++ [(x0, x1)]) → (w0.alloc (.cells #[.int .i64 x0, .int .i64 x1] 31)).grownBy w' v.ownBlock → (v'.ownBlock = v.ownBlock ∨ v'.ownBlock = some (w0.heap.size + 1)) → wpList Tryd.prog ops Q rest (a.put o.dst v') w') :
    wpList Tryd.prog ops Q (o :: rest) a (w0.alloc (.cells #[.int .i64 x0, .int .i64 x1] 31)) := by
  obtain ⟨i0, hi, hz0, hz1, hz2⟩ := info_parts infoFold
  refine wpList_append_own_at _ hgd s x 25 ho base 31 i0 _ 2 16 Tryd.underlying25 hi hz0 hz1 hz2 rfl (by decide) v es.length ((flatF es).map iv) hs (World.ownsRow.alloc hown _) ⟨w0.heap.size, 0, none⟩ 1 1 [iv x0, iv x1] hx rfl ?_ ?_ ?_ ?_ ?_ ?_
  · intro j u hj
    have hk := heap_alloc_new w0 (.cells #[.int .i64 x0, .int .i64 x1] 31)
    rw [addr_plus, Nat.zero_add]
    have c := cell_of_heap hk j
    match j, hj with
    | 0, hj => simp at hj; subst hj; simp [iv]
    | 1, hj => simp at hj; subst hj; simp [iv]
  · intro u hu
    simp at hu
    rcases hu with rfl | rfl <;> rfl
  · unfold maxLen; omega
  · omega
  · simp; omega
  · intro v' w' ho' hg _ hw
    exact h v' w' (by unfold OwnsF OwnsS; rw [flatF_append]; simpa [flatF] using ho') hg (by simpa using hw)
end Go.Proofs.YtdeofaimgldklaaDoor
