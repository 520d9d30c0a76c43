/- Folds, their text: FormatFolds of the program (tools/hn.py). -/
import Derived.Test.YtdeofaimgldklaaDoorHN
import Derived.Test.YtdeofaimgldklaaDoorShelf
import Derived.Laws.OwnMore
namespace Go.Proofs.YtdeofaimgldklaaDoor
open Go.RowKit
set_option linter.unusedVariables false
set_option linter.unusedSimpArgs false

abbrev Tab (w : World) : Prop := Lib.TabIs Tryd.prog w "internal/strconv.uint64pow10" .u64 Lib.pow10Tab
theorem Tab.below {w w' : World} (h : Tab w) (hb : Below w.heap.size w w') : Tab w' := Lib.tabBelow_of_tabIs h w' hb
theorem infoTx : (Tryd.prog.info? 9).map (fun i => (i.zero, i.size, i.bytes)) = some (some (.string ⟨#[]⟩), 1, 16) := by kernel_rfl
/-- The first texts, then empty ones. -/
def padB (xs : List ByteArray) (n : Nat) : List Value := xs.map Value.string ++ List.replicate (n - xs.length) (.string ⟨#[]⟩)
theorem padB_set {xs : List ByteArray} {n : Nat} (x : ByteArray) (h : xs.length < n) : (padB xs n).set xs.length (.string x) = padB (xs ++ [x]) n := by
  unfold padB
  have hl : (xs.map Value.string).length = xs.length := List.length_map _
  conv => lhs; arg 2; rw [← hl]
  rw [List.set_append_right _ _ (Nat.le_refl _), Nat.sub_self, show n - xs.length = (n - (xs ++ [x]).length) + 1 by simp; omega, List.replicate_succ, List.set_cons_zero, List.map_append, List.append_assoc]
  rfl
theorem padB_length {xs : List ByteArray} {n : Nat} (h : xs.length ≤ n) : (padB xs n).length = n := by
  unfold padB
  rw [List.length_append, List.length_map, List.length_replicate]
  omega
/-- The text of a fold, as the program writes it. -/
def pieceB (f : tupF) : ByteArray := fmtB f.1 ++ ⟨#[61]⟩ ++ fmtB f.2
theorem pieceB_list (f : tupF) : (pieceB f).data.toList = pieceF f := by unfold pieceB pieceF; simp [fmtB_text]
theorem piecesB (zs : List tupF) : (zs.map pieceB).map (·.data.toList) = zs.map pieceF := by
  rw [List.map_map]
  exact List.map_congr_left fun z _ => pieceB_list z
theorem take_B {zs : List tupF} {k : Nat} (h : k < zs.length) : (zs.take (k + 1)).map pieceB = (zs.take k).map pieceB ++ [fmtB (zs.getD k zeroF).1 ++ ⟨#[61]⟩ ++ fmtB (zs.getD k zeroF).2] := by
  rw [List.take_add_one, List.getElem?_eq_getElem h, List.map_append, List.getD_eq_getElem?_getD, List.getElem?_eq_getElem h]
  rfl
set_option maxRecDepth 100000 in
set_option maxHeartbeats 6400000 in
theorem progFmtFs (w : World) (v : Value) (zs : List tupF) (h : ReadF w.heap.size w v zs) (hi : InF zs) (hl : zs.length ≤ 1048576) (htab : Tab w) :
    Calls Tryd.prog 7 #[v] w (LwStr w (textF zs)) := by
  obtain ⟨a, cap, rfl, hnc⟩ := h.form
  obtain ⟨n, hn⟩ : ∃ n, n = zs.length := ⟨_, rfl⟩
  have hrd : Hid (ReadF w.heap.size w (.slice a n cap) zs) := hidI (by rw [hn]; exact h)
  rw [← hn] at hl hnc ⊢
  clear h
  obtain ⟨T, hT⟩ : ∃ T, T = textF zs := ⟨_, rfl⟩
  rw [← hT]
  replace hi := hidI hi
  replace htab := hidI htab
  by_cases h0 : n = 0
  · have hz : zs = [] := List.length_eq_zero_iff.1 (by omega)
    have hr : LwStr w T (.returned (.string ⟨#[110, 111, 110, 101]⟩)) w := ⟨str_is (by rw [hT, textF_list, fmtFs, if_pos hz]), Below.refl _ _⟩
    have hn0 : ((n : Int) == 0) = true := by rw [beq_iff_eq]; omega
    replace hr := hidI hr
    replace hz := hidI hz
    replace hn := hidI hn
    replace hT := hidI hT
    replace h0 := hidI h0
    go_enter Tryd.func7, Tryd.ntmps7
    go_wp2
    go_ret
    exact hr.out
  · have hn0 : ((n : Int) == 0) = false := by rw [beq_eq_false_iff_ne]; omega
    obtain ⟨i0, hj, hz0, hz1, hz2⟩ := info_parts infoTx
    replace hn := hidI hn
    replace hT := hidI hT
    go_enter Tryd.func7, Tryd.ntmps7
    go_wp2_with (at_make; go_must (refine wpList_make_full _ rfl _ _ 34 rfl w.heap.size 9 i0 (.string ⟨#[]⟩) 1 Tryd.underlying34 hj hz0 hz1 .i64 .i64 _ _ n rfl rfl rfl rfl ?c1 ?c2 ?c3 ?_))
    case c1 => rw [hz2]; omega
    case c2 => unfold maxLen; omega
    case c3 => exact Nat.le_refl _
    intro w1 hown hg
    rw [toList_madeCells_one] at hown
    have hb := (Below.refl w.heap.size w).grown hg (Nat.le_refl _) (by intro k hk; cases hk)
    have hlt1 : w.heap.size < w1.heap.size := (World.ownsRow.lt hown _ rfl).2
    clear hg hj hz0 hz1 hz2
    have hst0 : Hid (w1.ownsRow w.heap.size 9 1 (.slice (some ⟨w.heap.size, 0, none⟩) n n) n (padB ((zs.take 0).map pieceB) n)) := hidI hown
    clear hown
    go_wp2
    go_loopg [4, 5, 14] n (fun g x y i wr => ∃ k : Nat, k + g = n ∧ i = .int .i64 k ∧ Hid (wr.ownsRow w.heap.size 9 1 (.slice (some ⟨w.heap.size, 0, none⟩) n n) n (padB ((zs.take k).map pieceB) n)) ∧ Hid (Below w.heap.size w wr) ∧ w.heap.size < wr.heap.size)
    case atStart => exact ⟨0, by omega, rfl, hst0, hidI hb, hlt1⟩
    case round =>
      clear hst0 hb hlt1
      obtain ⟨k, hk, rfl, hst, hb, hlw⟩ := hrel
      by_cases hlt : k < n
      · have hki : (k : Int) < (n : Int) := by omega
        have hkl : k < zs.length := by have := hn.out; omega
        obtain ⟨b, off, hab, hB, c0, c1⟩ := ReadF.cells (hrd.out.below hb.out) k hkl
        subst hab
        have hin := hi.out.at_ hkl
        have hstep := take_B hkl
        obtain ⟨f0, hf0⟩ : ∃ z, z = (zs.getD k zeroF).1 := ⟨_, rfl⟩
        obtain ⟨f1, hf1⟩ : ∃ z, z = (zs.getD k zeroF).2 := ⟨_, rfl⟩
        rw [← hf0] at c0 hin hstep
        rw [← hf1] at c1 hin hstep
        have hc0 := fun x (h : Tab x) => implFmt f0 hin.1.1 hin.1.2 x h
        have hc1 := fun x (h : Tab x) => implFmt f1 hin.2.1 hin.2.2 x h
        obtain ⟨F0, hF0⟩ : ∃ F, F = fmtB f0 := ⟨_, rfl⟩
        obtain ⟨F1, hF1⟩ : ∃ F, F = fmtB f1 := ⟨_, rfl⟩
        have hz0 := fmtB_size hin.1
        have hz1 := fmtB_size hin.2
        rw [← hF0] at hz0 hc0 hstep
        rw [← hF1] at hz1 hc1 hstep
        have k1 : ¬ 9223372036854775807 < F0.size + 1 := by omega
        have k2 : ¬ 9223372036854775807 < F0.size + 1 + F1.size := by omega
        have hlk : ((zs.take k).map pieceB).length = k := by rw [List.length_map, List.length_take]; omega
        have hset := padB_set (xs := (zs.take k).map pieceB) (n := n) (F0 ++ ⟨#[61]⟩ ++ F1) (by rw [hlk]; exact hlt)
        rw [hlk, ← hstep] at hset
        have hpl := padB_length (xs := (zs.take k).map pieceB) (n := n) (by rw [hlk]; omega)
        obtain ⟨wn, hwn⟩ : ∃ z, z = wr.alloc (.cells #[.int .i64 f0, .int .i64 f1] 31) := ⟨_, rfl⟩
        have hbn : Below wr.heap.size wr wn := by rw [hwn]; exact (Below.refl _ _).alloc (Nat.le_refl _) _
        have hsn : wr.heap.size < wn.heap.size := by rw [hwn]; simp
        have hkn := heap_alloc_new wr (.cells #[.int .i64 f0, .int .i64 f1] 31)
        rw [← hwn] at hkn
        have u0 : wn.cell? ⟨wr.heap.size, 0, none⟩ = some (.int .i64 f0) := by simpa using cell_of_heap hkn 0
        have u1 : wn.cell? ⟨wr.heap.size, 1, none⟩ = some (.int .i64 f1) := by simpa using cell_of_heap hkn 1
        clear hkn
        obtain ⟨wd, hwd⟩ : ∃ z, z = wn.drew := ⟨_, rfl⟩
        have hbd : Below wn.heap.size wn wd := by rw [hwd]; exact below_dn (Below.refl _ _) 1
        have hsd := hbd.size
        have hsb := hb.out.size
        have x0 := below_cell u0 hbd hsn
        have x1 := below_cell u1 hbd hsn
        have htn : Hid (Tab wd) := hidI (htab.out.below (hb.out.trans ((hbn.trans (hbd.mono hbn.size)).mono hb.out.size)))
        have hltd : wr.heap.size < wd.heap.size := by omega
        replace hf0 := hidI hf0
        replace hf1 := hidI hf1
        replace hF0 := hidI hF0
        replace hF1 := hidI hF1
        replace hstep := hidI hstep
        replace hset := hidI hset
        replace hlk := hidI hlk
        replace hpl := hidI hpl
        replace hwn := hidI hwn
        replace hwd := hidI hwd
        replace hk := hidI hk
        clear hin
        go_wp2
        rw [← hwn.out]
        clear u0 u1 c0 c1
        refine hideQ (fun _ _ d _ _ h => by cases d <;> exact h) (fun Q' hnorm hpan => ?_)
        refine wp_region_held_drew (S := (fun z => z.cell? ⟨wr.heap.size, 0, none⟩ = some (.int .i64 f0) ∧ z.cell? ⟨wr.heap.size, 1, none⟩ = some (.int .i64 f1))) (by kernel_rfl) ?_ (fun hHeld => ?_)
        · try dsimp only
          first | ((repeat' apply And.intro) <;> assumption) | (rw [← hwd.out]; ((repeat' apply And.intro) <;> assumption))
        rw [← hwd.out] at hHeld ⊢
        refine take_at 0 19 (v := ?_) rfl (by kernel_rfl) (by kernel_rfl) (by kernel_rfl) (by kernel_rfl) hpan (Or.inl ⟨by rfl, ?_⟩) (by assumption) ?_
        rotate_left
        · intro w hSw; (try dsimp only at hSw); go_simp; with_reducible rfl
        simp only [Act.put, List.setIfInBounds_toArray, List.set_cons_zero, List.set_cons_succ]
        refine take_at 1 20 (v := ?_) rfl (by kernel_rfl) (by kernel_rfl) (by kernel_rfl) (by kernel_rfl) hpan (Or.inl ⟨by rfl, ?_⟩) (by assumption) ?_
        rotate_left
        · intro w hSw; (try dsimp only at hSw); go_simp; with_reducible rfl
        simp only [Act.put, List.setIfInBounds_toArray, List.set_cons_zero, List.set_cons_succ]
        refine take_at 2 21 (v := ?_) rfl (by kernel_rfl) (by kernel_rfl) (by kernel_rfl) (by kernel_rfl) hpan (Or.inl ⟨by rfl, ?_⟩) (by assumption) ?_
        rotate_left
        · intro w hSw; (try dsimp only at hSw); go_simp; with_reducible rfl
        simp only [Act.put, List.setIfInBounds_toArray, List.set_cons_zero, List.set_cons_succ]
        refine take_at 3 22 (v := ?_) rfl (by kernel_rfl) (by kernel_rfl) (by kernel_rfl) (by kernel_rfl) hpan (Or.inl ⟨by rfl, ?_⟩) (by assumption) ?_
        rotate_left
        · intro w hSw; (try dsimp only at hSw); go_simp; with_reducible rfl
        simp only [Act.put, List.setIfInBounds_toArray, List.set_cons_zero, List.set_cons_succ]
        refine take_at 6 25 (v := ?_) rfl (by kernel_rfl) (by kernel_rfl) (by kernel_rfl) (by kernel_rfl) hpan (Or.inl ⟨by rfl, ?_⟩) (by assumption) ?_
        rotate_left
        · intro w hSw; (try dsimp only at hSw); go_simp; with_reducible rfl
        simp only [Act.put, List.setIfInBounds_toArray, List.set_cons_zero, List.set_cons_succ]
        refine take_at 7 26 (v := ?_) rfl (by kernel_rfl) (by kernel_rfl) (by kernel_rfl) (by kernel_rfl) hpan (Or.inl ⟨by rfl, ?_⟩) (by assumption) ?_
        rotate_left
        · intro w hSw; (try dsimp only at hSw); go_simp; with_reducible rfl
        simp only [Act.put, List.setIfInBounds_toArray, List.set_cons_zero, List.set_cons_succ]
        refine wpAnyH_ready (rs := [4]) (by kernel_rfl) (by simp) ?_
        refine AllReadyH.cons rfl (fun K hK => ?_) AllReadyH.nil
        rw [if_pos (by rfl)]
        go_simp
        refine (hc0 wd htn.out).mono ?_
        rintro e v3 ⟨rfl, hb3⟩
        have y0 := below_cell x0 hb3 hltd
        have y1 := below_cell x1 hb3 hltd
        have hs3 := hb3.size
        have htv := hidI (htn.out.below hb3)
        refine hK.out _ _ ?_ (fun hHeld => ?_)
        · try dsimp only
          first | ((repeat' apply And.intro) <;> assumption) | (rw [← hwd.out]; ((repeat' apply And.intro) <;> assumption))
        clear hK
        try simp only [Act.put, List.setIfInBounds_toArray, List.set_cons_zero, List.set_cons_succ]
        refine take_at 5 24 (v := ?_) rfl (by kernel_rfl) (by kernel_rfl) (by kernel_rfl) (by kernel_rfl) hpan (Or.inl ⟨by rfl, ?_⟩) (by assumption) ?_
        rotate_left
        · intro w hSw; (try dsimp only at hSw); go_simp; with_reducible rfl
        simp only [Act.put, List.setIfInBounds_toArray, List.set_cons_zero, List.set_cons_succ]
        refine wpAnyH_ready (rs := [8]) (by kernel_rfl) (by simp) ?_
        refine AllReadyH.cons rfl (fun K hK => ?_) AllReadyH.nil
        rw [if_pos (by rfl)]
        go_simp
        refine (hc1 v3 htv.out).mono ?_
        rintro e v4 ⟨rfl, hb4⟩
        have z0 := below_cell y0 hb4 (by omega)
        have z1 := below_cell y1 hb4 (by omega)
        have hs4 := hb4.size
        have hown2 : v4.ownsRow w.heap.size 9 1 (.slice (some ⟨w.heap.size, 0, none⟩) n n) n (padB ((zs.take k).map pieceB) n) := by
          obtain ⟨q1, q2 | ⟨g, cap', cur, e, hg, hh, hr⟩⟩ := hst.out
          · exact ⟨q1, .inl q2⟩
          · cases e
            exact ⟨q1, .inr ⟨_, _, cur, rfl, hg, ((hb4.block _ (by omega)).trans ((hb3.block _ (by omega)).trans ((hbd.block _ (by omega)).trans (hbn.block _ (by omega))))).trans hh, hr⟩⟩
        obtain ⟨x9, hx0⟩ : ∃ x, v4.cell? ⟨w.heap.size, k, none⟩ = some x := by
          rw [hown2.cellAt k (by omega)]
          exact ⟨_, List.getElem?_eq_getElem (by rw [hpl.out]; omega)⟩
        have hf9 := hown2.frozenAt k
        have hs5 := hidI (by have := (hown2.stored k (.string (F0 ++ ⟨#[61]⟩ ++ F1))).1; rw [hset.out] at this; exact this)
        have t0 : (v4.setCell ⟨w.heap.size, k, none⟩ (.string (F0 ++ ⟨#[61]⟩ ++ F1))).cell? ⟨wr.heap.size, 0, none⟩ = some (.int .i64 f0) := (World.cell?_of_block (w := v4) (a := ⟨wr.heap.size, 0, none⟩) (Below.heap_setCell _ _ _ _ (show wr.heap.size ≠ w.heap.size by omega))).trans z0
        have t1 : (v4.setCell ⟨w.heap.size, k, none⟩ (.string (F0 ++ ⟨#[61]⟩ ++ F1))).cell? ⟨wr.heap.size, 1, none⟩ = some (.int .i64 f1) := (World.cell?_of_block (w := v4) (a := ⟨wr.heap.size, 1, none⟩) (Below.heap_setCell _ _ _ _ (show wr.heap.size ≠ w.heap.size by omega))).trans z1
        replace hown2 := hidI hown2
        refine hK.out _ _ ?_ (fun hHeld => ?_)
        · try dsimp only
          first | ((repeat' apply And.intro) <;> assumption) | (rw [← hwd.out]; ((repeat' apply And.intro) <;> assumption))
        clear hK
        try simp only [Act.put, List.setIfInBounds_toArray, List.set_cons_zero, List.set_cons_succ]
        refine take_at 9 28 (v := ?_) rfl (by kernel_rfl) (by kernel_rfl) (by kernel_rfl) (by kernel_rfl) hpan (Or.inl ⟨by rfl, ?_⟩) (by assumption) ?_
        rotate_left
        · intro w hSw; (try dsimp only at hSw); go_simp; with_reducible rfl
        simp only [Act.put, List.setIfInBounds_toArray, List.set_cons_zero, List.set_cons_succ]
        refine take_at 10 29 (v := ?_) rfl (by kernel_rfl) (by kernel_rfl) (by kernel_rfl) (by kernel_rfl) hpan (Or.inl ⟨by rfl, ?_⟩) (by assumption) ?_
        rotate_left
        · intro w hSw; (try dsimp only at hSw); go_simp; with_reducible rfl
        simp only [Act.put, List.setIfInBounds_toArray, List.set_cons_zero, List.set_cons_succ]
        refine wpAnyH_ready (rs := [11]) (by kernel_rfl) (by simp) ?_
        refine AllReadyH.cons rfl (fun K hK => ?_) AllReadyH.nil
        rw [if_pos (by rfl)]
        go_simp
        skip
        refine hK.out _ _ ?_ (fun hHeld => ?_)
        · try dsimp only
          first | ((repeat' apply And.intro) <;> assumption) | (rw [← hwd.out]; ((repeat' apply And.intro) <;> assumption))
        clear hK
        try simp only [Act.put, List.setIfInBounds_toArray, List.set_cons_zero, List.set_cons_succ]
        refine wpAnyH_done (by kernel_rfl) ?_ _
        refine hnorm _ _ ?_
        clear hnorm hpan
        repeat clear hHeld
        try simp only [Exit.then]
        have hbz : Below w.heap.size w v4 := hb.out.trans ((hbn.trans ((hbd.trans ((hb3.trans (hb4.mono hb3.size)).mono hbd.size)).mono hbn.size)).mono hb.out.size)
        have hb5 : Hid (Below w.heap.size w (v4.setCell ⟨w.heap.size, k, none⟩ (.string (F0 ++ ⟨#[61]⟩ ++ F1)))) := hidI (hbz.setCell (p := ⟨w.heap.size, k, none⟩) (Nat.le_refl _) _)
        have hlw5 : w.heap.size < (v4.setCell ⟨w.heap.size, k, none⟩ (.string (F0 ++ ⟨#[61]⟩ ++ F1))).heap.size := by
          have : (v4.setCell ⟨w.heap.size, k, none⟩ (.string (F0 ++ ⟨#[61]⟩ ++ F1))).heap.size = v4.heap.size := by simp [World.setCell]
          rw [this]; have := hb3.size; have := hb4.size; omega
        replace hlw5 := hidI hlw5
        clear hst hb hb3 hb4 hbn hbd x0 x1 y0 y1 z0 z1 t0 t1 hs3 hs4 hx0 hf9
        go_wp2
        go_roundg (n - (k + 1))
        case rel => exact ⟨k + 1, by have := hk.out; omega, by go_num, hs5, hb5, hlw5.out⟩
        case measure => have := hk.out; omega
      · obtain rfl : k = n := by omega
        have hki : ¬ (k : Int) < (k : Int) := by omega
        have hfull : zs.take k = zs := List.take_of_length_le (by have := hn.out; omega)
        rw [hfull] at hst
        have hz : zs ≠ [] := by intro e; have := hn.out; rw [e] at this; exact h0 this
        obtain ⟨X, hX⟩ : ∃ X : List ByteArray, X = zs.map pieceB := ⟨_, rfl⟩
        have hXl : X.length = k := by rw [hX, List.length_map]; exact hn.out.symm
        have hXm : X.map (·.data.toList) = zs.map pieceF := by rw [hX]; exact piecesB zs
        have hcell : ∀ (j : Nat) x, X[j]? = some x → wr.cell? ⟨w.heap.size, 0 + j, none⟩ = some (.string x) := fun j x hx => by
          have hj := (List.getElem?_eq_some_iff.1 hx).1
          rw [Nat.zero_add, hst.out.cellAt j (by omega)]
          unfold padB
          rw [← hX, List.getElem?_append_left (by rw [List.length_map]; omega), List.getElem?_map, hx]
          rfl
        have hjl := jnF_len hi.out
        have hcall := Tryd.strings_Join w.heap.size 0 k X ⟨#[32]⟩ wr hcell hlw (by omega) (by omega) (by rw [show ((⟨#[32]⟩ : ByteArray).data.toList) = [32] from rfl, hXm]; have := hn.out; omega)
        rw [show ((⟨#[32]⟩ : ByteArray).data.toList) = [32] from rfl, hXm, hXl] at hcall
        have hTx : T = ⟨(Lib.join (zs.map pieceF) [32]).toArray⟩ := by rw [hT.out, textF, fmtFs, if_neg hz]
        rw [← hTx] at hcall
        have hbr := hb.out
        replace hTx := hidI hTx
        replace hX := hidI hX
        replace hXl := hidI hXl
        replace hXm := hidI hXm
        replace hcell := hidI hcell
        replace hjl := hidI hjl
        replace hz := hidI hz
        replace hk := hidI hk
        replace hfull := hidI hfull
        go_wp2_with fail
        refine hcall.mono ?_
        rintro e w6 ⟨rfl, hb6⟩
        have hbq := hbr.trans (hb6.mono hbr.size)
        clear hcall
        go_wp2
        go_ret
        exact ⟨rfl, hbq⟩
end Go.Proofs.YtdeofaimgldklaaDoor
