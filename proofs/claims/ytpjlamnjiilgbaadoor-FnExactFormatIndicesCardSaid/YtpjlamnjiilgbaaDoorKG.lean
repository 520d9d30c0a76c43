/- Numbers of a basis, their text: FormatIndices of the program. -/
import Derived.Test.YtpjlamnjiilgbaaDoorKF
import Derived.Test.YtpjlamnjiilgbaaDoorShelf
import Derived.Laws.OwnMore
namespace Go.Proofs.YtpjlamnjiilgbaaDoor
open Go.RowKit
set_option linter.unusedVariables false
set_option linter.unusedSimpArgs false

abbrev Tab (w : World) : Prop := Lib.TabIs Tryd.prog w "internal/strconv.uint64pow10" .u64 Lib.pow10Tab
theorem Tab.below {w w' : World} (h : Tab w) (hb : Below w.heap.size w w') : Tab w' := Lib.tabBelow_of_tabIs h w' hb
theorem infoTx : (Tryd.prog.info? 9).map (fun i => (i.zero, i.size, i.bytes)) = some (some (.string ⟨#[]⟩), 1, 16) := by kernel_rfl
/-- The first texts, then empty ones. -/
def padB (xs : List ByteArray) (n : Nat) : List Value := xs.map Value.string ++ List.replicate (n - xs.length) (.string ⟨#[]⟩)
theorem padB_set {xs : List ByteArray} {n : Nat} (x : ByteArray) (h : xs.length < n) : (padB xs n).set xs.length (.string x) = padB (xs ++ [x]) n := by
  unfold padB
  have hl : (xs.map Value.string).length = xs.length := List.length_map _
  conv => lhs; arg 2; rw [← hl]
  rw [List.set_append_right _ _ (Nat.le_refl _), Nat.sub_self, show n - xs.length = (n - (xs ++ [x]).length) + 1 by simp; omega, List.replicate_succ, List.set_cons_zero, List.map_append, List.append_assoc]
  rfl
theorem padB_length {xs : List ByteArray} {n : Nat} (h : xs.length ≤ n) : (padB xs n).length = n := by
  unfold padB
  rw [List.length_append, List.length_map, List.length_replicate]
  omega
theorem piecesIs (zs : List Int) : (zs.map fmtB).map (·.data.toList) = zs.map Lib.itoa := by
  rw [List.map_map]
  exact List.map_congr_left fun z _ => fmtB_text z
theorem take_Bs {zs : List Int} {k : Nat} (h : k < zs.length) : (zs.take (k + 1)).map fmtB = (zs.take k).map fmtB ++ [fmtB (zs.getD k 0)] := by
  rw [List.take_add_one, List.getElem?_eq_getElem h, List.map_append, List.getD_eq_getElem?_getD, List.getElem?_eq_getElem h]
  rfl
set_option maxRecDepth 100000 in
set_option maxHeartbeats 6400000 in
theorem progFmtIs (w : World) (v : Value) (zs : List Int) (h : ReadI w.heap.size w v zs) (hi : InR zs) (hl : zs.length ≤ 1048576) (htab : Tab w) :
    Calls Tryd.prog 6 #[v] w (LwStr w (textIs zs)) := by
  have h' := h
  obtain ⟨_, a, cap, rfl, _, _⟩ := h'
  obtain ⟨n, hn⟩ : ∃ n, n = zs.length := ⟨_, rfl⟩
  have hrd : Hid (ReadI w.heap.size w (.slice a n cap) zs) := hidI (by rw [hn]; exact h)
  rw [← hn] at hl ⊢
  clear h
  obtain ⟨T, hT⟩ : ∃ T, T = textIs zs := ⟨_, rfl⟩
  rw [← hT]
  replace hi := hidI hi
  replace htab := hidI htab
  by_cases h0 : n = 0
  · have hz : zs = [] := List.length_eq_zero_iff.1 (by omega)
    have hr : LwStr w T (.returned (.string ⟨#[110, 111, 110, 101]⟩)) w := ⟨str_is (by rw [hT, textIs_list, fmtIs, if_pos hz]), Below.refl _ _⟩
    have hn0 : ((n : Int) == 0) = true := by rw [beq_iff_eq]; omega
    replace hr := hidI hr
    replace hz := hidI hz
    replace hn := hidI hn
    replace hT := hidI hT
    replace h0 := hidI h0
    go_enter Tryd.func6, Tryd.ntmps6
    go_wp2
    go_ret
    exact hr.out
  · have hn0 : ((n : Int) == 0) = false := by rw [beq_eq_false_iff_ne]; omega
    obtain ⟨i0, hj, hz0, hz1, hz2⟩ := info_parts infoTx
    replace hn := hidI hn
    replace hT := hidI hT
    go_enter Tryd.func6, Tryd.ntmps6
    go_wp2_with (at_make; go_must (refine wpList_make_full _ rfl _ _ 28 rfl w.heap.size 9 i0 (.string ⟨#[]⟩) 1 Tryd.underlying28 hj hz0 hz1 .i64 .i64 _ _ n rfl rfl rfl rfl ?c1 ?c2 ?c3 ?_))
    case c1 => rw [hz2]; omega
    case c2 => unfold maxLen; omega
    case c3 => exact Nat.le_refl _
    intro w1 hown hg
    rw [toList_madeCells_one] at hown
    have hb := (Below.refl w.heap.size w).grown hg (Nat.le_refl _) (by intro k hk; cases hk)
    have hlt1 : w.heap.size < w1.heap.size := (World.ownsRow.lt hown _ rfl).2
    clear hg hj hz0 hz1 hz2
    have hst0 : Hid (w1.ownsRow w.heap.size 9 1 (.slice (some ⟨w.heap.size, 0, none⟩) n n) n (padB ((zs.take 0).map fmtB) n)) := hidI hown
    clear hown
    go_wp2
    go_loopg [4, 5, 14] n (fun g x y i wr => ∃ k : Nat, k + g = n ∧ i = .int .i64 k ∧ Hid (wr.ownsRow w.heap.size 9 1 (.slice (some ⟨w.heap.size, 0, none⟩) n n) n (padB ((zs.take k).map fmtB) n)) ∧ Hid (Below w.heap.size w wr) ∧ w.heap.size < wr.heap.size)
    case atStart => exact ⟨0, by omega, rfl, hst0, hidI hb, hlt1⟩
    case round =>
      clear hst0 hb hlt1
      obtain ⟨k, hk, rfl, hst, hb, hlw⟩ := hrel
      by_cases hlt : k < n
      · have hki : (k : Int) < (n : Int) := by omega
        have hkl : k < zs.length := by have := hn.out; omega
        obtain ⟨b, off, hab, hB, c0⟩ := (hrd.out.below hb.out).at2 k hkl
        subst hab
        have hin := hi.out.getD k hkl
        have hstep := take_Bs hkl
        obtain ⟨f0, hf0⟩ : ∃ z, z = zs.getD k 0 := ⟨_, rfl⟩
        rw [← hf0] at c0 hin hstep
        have hc0 := implFmt f0 hin.1 hin.2 wr (htab.out.below hb.out)
        obtain ⟨F0, hF0⟩ : ∃ F, F = fmtB f0 := ⟨_, rfl⟩
        rw [← hF0] at hc0 hstep
        have hlk : ((zs.take k).map fmtB).length = k := by rw [List.length_map, List.length_take]; omega
        have hset := padB_set (xs := (zs.take k).map fmtB) (n := n) F0 (by rw [hlk]; exact hlt)
        rw [hlk, ← hstep] at hset
        have hpl := padB_length (xs := (zs.take k).map fmtB) (n := n) (by rw [hlk]; omega)
        replace hf0 := hidI hf0
        replace hF0 := hidI hF0
        replace hstep := hidI hstep
        replace hset := hidI hset
        replace hlk := hidI hlk
        replace hpl := hidI hpl
        replace hk := hidI hk
        clear hin
        go_wp2_with fail
        refine hc0.mono ?_
        rintro e v4 ⟨rfl, hb4⟩
        have hs4 := hb4.size
        have hown2 : v4.ownsRow w.heap.size 9 1 (.slice (some ⟨w.heap.size, 0, none⟩) n n) n (padB ((zs.take k).map fmtB) n) := by
          obtain ⟨q1, q2 | ⟨g, cap', cur, e, hg, hh, hr⟩⟩ := hst.out
          · exact ⟨q1, .inl q2⟩
          · cases e
            exact ⟨q1, .inr ⟨_, _, cur, rfl, hg, (hb4.block _ (by omega)).trans hh, hr⟩⟩
        obtain ⟨x9, hx0⟩ : ∃ x, v4.cell? ⟨w.heap.size, k, none⟩ = some x := by
          rw [hown2.cellAt k (by omega)]
          exact ⟨_, List.getElem?_eq_getElem (by rw [hpl.out]; omega)⟩
        have hf9 := hown2.frozenAt k
        have hs5 := hidI (by have := (hown2.stored k (.string F0)).1; rw [hset.out] at this; exact this)
        have hbz : Below w.heap.size w v4 := hb.out.trans (hb4.mono hb.out.size)
        have hb5 : Hid (Below w.heap.size w (v4.setCell ⟨w.heap.size, k, none⟩ (.string F0))) := hidI (hbz.setCell (p := ⟨w.heap.size, k, none⟩) (Nat.le_refl _) _)
        have hlw5 : w.heap.size < (v4.setCell ⟨w.heap.size, k, none⟩ (.string F0)).heap.size := by
          have : (v4.setCell ⟨w.heap.size, k, none⟩ (.string F0)).heap.size = v4.heap.size := by simp [World.setCell]
          rw [this]; omega
        replace hlw5 := hidI hlw5
        replace hown2 := hidI hown2
        clear hst hb hb4 hs4 hc0 hbz
        go_wp2
        go_roundg (n - (k + 1))
        case rel => exact ⟨k + 1, by have := hk.out; omega, by go_num, hs5, hb5, hlw5.out⟩
        case measure => have := hk.out; omega
      · obtain rfl : k = n := by omega
        have hki : ¬ (k : Int) < (k : Int) := by omega
        have hfull : zs.take k = zs := List.take_of_length_le (by have := hn.out; omega)
        rw [hfull] at hst
        have hz : zs ≠ [] := by intro e; have := hn.out; rw [e] at this; exact h0 this
        obtain ⟨X, hX⟩ : ∃ X : List ByteArray, X = zs.map fmtB := ⟨_, rfl⟩
        have hXl : X.length = k := by rw [hX, List.length_map]; exact hn.out.symm
        have hXm : X.map (·.data.toList) = zs.map Lib.itoa := by rw [hX]; exact piecesIs zs
        have hcell : ∀ (j : Nat) x, X[j]? = some x → wr.cell? ⟨w.heap.size, 0 + j, none⟩ = some (.string x) := fun j x hx => by
          have hj := (List.getElem?_eq_some_iff.1 hx).1
          rw [Nat.zero_add, hst.out.cellAt j (by omega)]
          unfold padB
          rw [← hX, List.getElem?_append_left (by rw [List.length_map]; omega), List.getElem?_map, hx]
          rfl
        have hjl := jnI_len hi.out
        have hcall := Tryd.strings_Join w.heap.size 0 k X ⟨#[32]⟩ wr hcell hlw (by omega) (by omega) (by rw [show ((⟨#[32]⟩ : ByteArray).data.toList) = [32] from rfl, hXm]; have := hn.out; omega)
        rw [show ((⟨#[32]⟩ : ByteArray).data.toList) = [32] from rfl, hXm, hXl] at hcall
        have hTx : T = ⟨(Lib.join (zs.map Lib.itoa) [32]).toArray⟩ := by rw [hT.out, textIs, fmtIs, if_neg hz]
        rw [← hTx] at hcall
        have hbr := hb.out
        replace hTx := hidI hTx
        replace hX := hidI hX
        replace hXl := hidI hXl
        replace hXm := hidI hXm
        replace hcell := hidI hcell
        replace hjl := hidI hjl
        replace hz := hidI hz
        replace hk := hidI hk
        replace hfull := hidI hfull
        go_wp2_with fail
        refine hcall.mono ?_
        rintro e w6 ⟨rfl, hb6⟩
        have hbq := hbr.trans (hb6.mono hbr.size)
        clear hcall
        go_wp2
        go_ret
        exact ⟨rfl, hbq⟩
end Go.Proofs.YtpjlamnjiilgbaaDoor
