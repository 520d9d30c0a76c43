/- Texts of lists of words: FormatWords of the program (tools/se.py). -/
import Derived.Test.YtmafaglgegimfaaSEm
import Derived.Test.YtmafaglgegimfaaWN
import Derived.Test.YtmafaglgegimfaaShelf
import Derived.Laws.OwnMore
namespace Go.Proofs.Ytmafaglgegimfaa
open Go.RowKit
set_option linter.unusedVariables false
set_option linter.unusedSimpArgs false
set_option maxRecDepth 100000

theorem infoTx : (Try.prog.info? 9).map (fun i => (i.zero, i.size, i.bytes)) = some (some (.string ⟨#[]⟩), 1, 16) := by kernel_rfl
def txV (x : List UInt8) : Value := .string ⟨x.toArray⟩
/-- The first k texts, then empty ones. -/
def padT (xs : List (List UInt8)) (n : Nat) : List Value := xs.map txV ++ List.replicate (n - xs.length) (.string ⟨#[]⟩)
theorem padT_set {xs : List (List UInt8)} {n : Nat} (x : List UInt8) (h : xs.length < n) : (padT xs n).set xs.length (txV x) = padT (xs ++ [x]) n := by
  unfold padT
  have hl : (xs.map txV).length = xs.length := List.length_map _
  conv => lhs; arg 2; rw [← hl]
  rw [List.set_append_right _ _ (Nat.le_refl _), Nat.sub_self, show n - xs.length = (n - (xs ++ [x]).length) + 1 by simp; omega, List.replicate_succ, List.set_cons_zero, List.map_append, List.append_assoc]
  rfl
theorem padT_at {xs : List (List UInt8)} {x : List UInt8} {n : Nat} : (padT (xs ++ [x]) n)[xs.length]? = some (txV x) := by
  unfold padT
  rw [List.map_append, List.append_assoc, List.getElem?_append_right (by simp), List.length_map, Nat.sub_self]
  rfl
set_option maxHeartbeats 3200000 in
theorem progFmtWs (w : World) (v : Value) (zss : List (List Int)) (h : ReadSS w.heap.size w v zss) (hs : zss.length + totL zss ≤ 1048576) :
    Calls Try.prog 37 #[v] w (StrRet w (fmtWs zss)) := by
  have h' := h
  obtain ⟨hl, a, cap, rfl, _, _⟩ := h'
  obtain ⟨n, hn⟩ : ∃ n, n = zss.length := ⟨_, rfl⟩
  rw [← hn] at hl h hs
  have hzl : ∀ i, i < n → (zss.getD i []).length ≤ 100000000 := fun i hi => by
    have h1 := sumN_getD (zss.map List.length) i (by rw [List.length_map]; omega)
    rw [getD_map_len] at h1
    have h2 : sumN (zss.map List.length) = totL zss := rfl
    omega
  replace h := hidI h
  replace hzl := hidI hzl
  by_cases h0 : n = 0
  · have hz : zss = [] := List.length_eq_zero_iff.1 (by omega)
    have hr : StrRet w (fmtWs zss) (.returned (.string ⟨#[110, 111, 110, 101]⟩)) w := ⟨by rw [hz]; rfl, Below.refl _ _⟩
    have hn0 : ((n : Int) == 0) = true := by rw [beq_iff_eq]; omega
    replace hr := hidI hr
    replace hz := hidI hz
    replace hn := hidI hn
    replace hs := hidI hs
    replace h0 := hidI h0
    go_enter Try.func37, Try.ntmps37
    rw [← hn.out]
    go_wp2
    go_ret
    exact hr.out
  · have hn0 : ((n : Int) == 0) = false := by rw [beq_eq_false_iff_ne]; omega
    obtain ⟨i0, hi, hz0, hz1, hz2⟩ := info_parts infoTx
    have hnl : n ≤ 1048576 := by omega
    replace hn := hidI hn
    replace hs := hidI hs
    go_enter Try.func37, Try.ntmps37
    rw [← hn.out]
    go_wp2_with (at_make; go_must (refine wpList_make_full _ rfl _ _ 86 rfl w.heap.size 9 i0 (.string ⟨#[]⟩) 1 Try.underlying86 hi hz0 hz1 .i64 .i64 _ _ n rfl rfl rfl rfl ?c1 ?c2 ?c3 ?_))
    case c1 => rw [hz2]; omega
    case c2 => unfold maxLen; omega
    case c3 => exact Nat.le_refl _
    intro w1 hown hg
    rw [toList_madeCells_one] at hown
    have hb := (Below.refl w.heap.size w).grown hg (Nat.le_refl _) (by intro k hk; cases hk)
    have hlt1 : w.heap.size < w1.heap.size := (World.ownsRow.lt hown _ rfl).2
    clear hg hi hz0 hz1 hz2
    have hst0 : Hid (w1.ownsRow w.heap.size 9 1 (.slice (some ⟨w.heap.size, 0, none⟩) n n) n (padT ((zss.take 0).map fmtW) n)) := hidI hown
    clear hown
    go_wp2
    go_loopg [4, 5, 14] n (fun g x y i wr => ∃ k : Nat, k + g = n ∧ i = .int .i64 k ∧ Hid (wr.ownsRow w.heap.size 9 1 (.slice (some ⟨w.heap.size, 0, none⟩) n n) n (padT ((zss.take k).map fmtW) n)) ∧ Hid (∀ i, i < k → fmtW (zss.getD i []) ≠ []) ∧ Hid (Below w.heap.size w wr) ∧ w.heap.size < wr.heap.size)
    case atStart => exact ⟨0, by omega, rfl, hst0, hidI (fun i h => by omega), hidI hb, hlt1⟩
    case round =>
      clear hst0 hb hlt1
      obtain ⟨k, hk, rfl, hst, hall, hb, hlw⟩ := hrel
      by_cases hlt : k < n
      · have hki : (k : Int) < (n : Int) := by omega
        obtain ⟨b, off, u, rfl, hB, c, r⟩ := (h.out.below hb.out).at_ k (by have := hn.out; omega)
        have hcall := format_any wr u (zss.getD k []) (r.mono hb.out.size) (hzl.out k hlt)
        have hstep := fmt_take (zss := zss) (k := k) (by have := hn.out; omega)
        have hkl : ((zss.take k).map fmtW).length = k := by rw [List.length_map, List.length_take]; have := hn.out; omega
        have hT1 : txV (fmtW (zss.getD k [])) = .string ⟨(fmtW (zss.getD k [])).toArray⟩ := rfl
        have hset := padT_set (xs := (zss.take k).map fmtW) (n := n) (fmtW (zss.getD k [])) (by rw [hkl]; exact hlt)
        have hat := padT_at (xs := (zss.take k).map fmtW) (x := fmtW (zss.getD k [])) (n := n)
        rw [hkl, ← hstep, hT1] at hset hat
        obtain ⟨T, hT⟩ : ∃ T : ByteArray, T = ⟨(fmtW (zss.getD k [])).toArray⟩ := ⟨_, rfl⟩
        unfold StrRet at hcall
        rw [← hT] at hcall hset hat
        have hT9 := hidI hT
        clear r
        replace hk := hidI hk
        replace hT1 := hidI hT1
        replace hstep := hidI hstep
        replace hkl := hidI hkl
        replace hset := hidI hset
        replace hat := hidI hat
        replace hT := hidI hT
        go_wp2_with fail
        refine hcall.mono ?_
        rintro e w2 ⟨rfl, hb2⟩
        clear hcall
        have hown2 : w2.ownsRow w.heap.size 9 1 (.slice (some ⟨w.heap.size, 0, none⟩) n n) n (padT ((zss.take k).map fmtW) n) := by
          obtain ⟨q1, q2 | ⟨g, cap', cur, e, hg, hh, hr⟩⟩ := hst.out
          · exact ⟨q1, .inl q2⟩
          · cases e
            exact ⟨q1, .inr ⟨_, _, cur, rfl, hg, (hb2.block _ hlw).trans hh, hr⟩⟩
        obtain ⟨x0, hx0⟩ : ∃ x, w2.cell? ⟨w.heap.size, k, none⟩ = some x := by
          rw [hown2.cellAt k (by omega)]
          exact ⟨_, List.getElem?_eq_getElem (by unfold padT; rw [List.length_append, List.length_replicate, List.length_map, hkl.out]; omega)⟩
        have hf0 := hown2.frozenAt k
        have hs3 := (hown2.stored k (.string T)).1
        rw [hset.out] at hs3
        have hc3 : (w2.setCell ⟨w.heap.size, k, none⟩ (.string T)).cell? ⟨w.heap.size, k, none⟩ = some (.string T) := by
          rw [hs3.cellAt k (by omega)]; exact hat.out
        have hb3 : Below w.heap.size w (w2.setCell ⟨w.heap.size, k, none⟩ (.string T)) := (hb.out.trans (hb2.mono hb.out.size)).setCell (Nat.le_refl _) _
        have hlw3 : w.heap.size < (w2.setCell ⟨w.heap.size, k, none⟩ (.string T)).heap.size := by
          have : (w2.setCell ⟨w.heap.size, k, none⟩ (.string T)).heap.size = w2.heap.size := by simp [World.setCell]
          rw [this]; have := hb2.size; omega
        replace hown2 := hidI hown2
        replace hs3 := hidI hs3
        replace hb3 := hidI hb3
        replace hlw3 := hidI hlw3
        clear hst hb hb2
        by_cases hf : fmtW (zss.getD k []) = []
        · have hbad := hidI (fmtWs_bad (zss := zss) (i := k) (by have := hn.out; omega) hf)
          have hTe : T = ⟨#[]⟩ := by rw [hT.out, hf]
          subst hTe
          replace hf := hidI hf
          go_wp2
          go_ret
          exact ⟨ret_s (by rw [hbad.out]), hb3.out⟩
        · have hTi : T.toList.isEmpty = false := by rw [hT.out]; exact txt_ne hf
          have hnx : Hid (∀ i, i < k + 1 → fmtW (zss.getD i []) ≠ []) := hidI fun i hi => by
            by_cases e : i = k
            · subst e; exact hf
            · exact hall.out i (by omega)
          replace hf := hidI hf
          go_wp2
          go_roundg (n - (k + 1))
          case rel => exact ⟨k + 1, by have := hk.out; omega, by go_num, hs3, hnx, hb3, hlw3.out⟩
          case measure => have := hk.out; omega
      · obtain rfl : k = n := by omega
        have hki : ¬ (k : Int) < (k : Int) := by omega
        have hfull : zss.take k = zss := List.take_of_length_le (by have := hn.out; omega)
        rw [hfull] at hst
        have hz : zss ≠ [] := by intro e; have := hn.out; rw [e] at this; exact h0 this
        have hg := fmtWs_good hz (fun i hi => hall.out i (by have := hn.out; omega))
        obtain ⟨X, hX⟩ : ∃ X : List ByteArray, X = zss.map fun z => ⟨(fmtW z).toArray⟩ := ⟨_, rfl⟩
        have hXl : X.length = k := by rw [hX, List.length_map]; exact hn.out.symm
        have hXm : X.map (·.data.toList) = zss.map fmtW := by rw [hX, List.map_map]; exact List.map_congr_left fun z _ => by simp
        have hcell : ∀ (j : Nat) x, X[j]? = some x → wr.cell? ⟨w.heap.size, 0 + j, none⟩ = some (.string x) := fun j x hx => by
          have hj := (List.getElem?_eq_some_iff.1 hx).1
          rw [Nat.zero_add, hst.out.cellAt j (by omega)]
          unfold padT
          rw [List.getElem?_append_left (by rw [List.length_map, List.length_map]; have := hn.out; omega), List.map_map, List.getElem?_map]
          rw [hX, List.getElem?_map] at hx
          cases hzj : zss[j]? with
          | none => rw [hzj] at hx; cases hx
          | some z => rw [hzj] at hx; cases hx; rfl
        have hjl := jn_length zss
        have hcall := Try.strings_Join w.heap.size 0 k X ⟨#[44]⟩ wr hcell hlw (by omega) (by omega) (by rw [show ((⟨#[44]⟩ : ByteArray).data.toList) = [44] from rfl, hXm]; have := hs.out; have := hn.out; omega)
        rw [show ((⟨#[44]⟩ : ByteArray).data.toList) = [44] from rfl, hXm, ← hg, hXl] at hcall
        obtain ⟨R, hR⟩ : ∃ R, R = fmtWs zss := ⟨_, rfl⟩
        rw [← hR] at hcall ⊢
        replace hR := hidI hR
        replace hg := hidI hg
        replace hX := hidI hX
        replace hXl := hidI hXl
        replace hXm := hidI hXm
        replace hcell := hidI hcell
        replace hjl := hidI hjl
        replace hz := hidI hz
        replace hk := hidI hk
        replace hfull := hidI hfull
        go_wp2_with fail
        refine hcall.mono ?_
        rintro e w6 ⟨rfl, hb6⟩
        have hbq := hb.out.trans (hb6.mono hb.out.size)
        clear hcall
        go_wp2
        go_ret
        exact ⟨ret_s (by rw [hR.out]), hbq⟩
end Go.Proofs.Ytmafaglgegimfaa
