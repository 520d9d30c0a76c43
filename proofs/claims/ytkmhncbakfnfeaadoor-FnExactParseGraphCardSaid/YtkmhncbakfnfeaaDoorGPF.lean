/- Graphs, the program: FormatGraph. -/
import Derived.Test.YtkmhncbakfnfeaaDoorGF2
import Derived.Test.YtkmhncbakfnfeaaDoorGP3
import Derived.Test.YtkmhncbakfnfeaaDoorWN
import Derived.Test.YtkmhncbakfnfeaaDoorShelf
import Derived.Lib.AppendIntMem
import Derived.Laws.OwnMore
namespace Go.Proofs.YtkmhncbakfnfeaaDoor
open Go.RowKit
set_option linter.unusedVariables false
set_option linter.unusedSimpArgs false
set_option maxRecDepth 100000

abbrev Tab (w : World) : Prop := Lib.TabIs Tryd.prog w "internal/strconv.uint64pow10" .u64 Lib.pow10Tab
theorem Tab.below {w w' : World} (h : Tab w) (hb : Below w.heap.size w w') : Tab w' := Lib.tabBelow_of_tabIs h w' hb
/-- v is a slice of strings of the call's own. -/
abbrev OwnsTx (w : World) (base : Nat) (v : Value) (xs : List ByteArray) : Prop := w.ownsRow base 9 1 v xs.length (xs.map Value.string)
theorem infoStr : (Tryd.prog.info? 9).map (fun i => (i.zero, i.size, i.bytes)) = some (some (.string ⟨#[]⟩), 1, 16) := by kernel_rfl
/-- out = append(out, y), inside a region. -/
theorem step_pushB {w0 : World} {o : Oper} {a : Act} {K : Act → World → Prop} {Q : Exit → Act → World → Prop} (s x : Operand)
    (ho : o.op = .call { callee := .builtin .append, args := #[s, x], argTypes := #[43, 43] }) (base : Nat) (v : Value) (xs : List ByteArray) (y : ByteArray) (blk : Nat)
    (hs : a.eval s = v) (hx : a.eval x = .slice (some ⟨blk, 0, none⟩) 1 1) (hc : w0.cell? ⟨blk, 0, none⟩ = some (.string y)) (hown : OwnsTx w0 base v xs) (hl : xs.length ≤ 1000000000) (hbase : base ≤ w0.heap.size)
    (h : ∀ v' w', OwnsTx w' base v' (xs ++ [y]) → Below base w0 w' → (∀ k, k < w0.heap.size → v.ownBlock ≠ some k → w'.heap[k]? = w0.heap[k]?) → K (a.put o.dst v') w') :
    Oper.wp Tryd.prog o a w0 K Q := by
  obtain ⟨i0, hi, hz0, hz1, hz2⟩ := info_parts infoStr
  refine wp_append_own w0 s x 43 ho base 9 i0 _ 1 16 Tryd.underlying43 hi hz0 hz1 hz2 rfl (by decide) v xs.length (xs.map Value.string) hs hown ⟨blk, 0, none⟩ 1 1 [.string y] hx rfl ?_ ?_ ?_ ?_ hbase ?_
  · intro j u hj
    match j, hj with
    | 0, hj => simp at hj; subst hj; simpa [Addr.add] using hc
  · intro u hu
    simp at hu
    subst hu
    rfl
  · unfold maxLen; omega
  · omega
  · intro v' w' ho' hg _
    refine h v' w' (by unfold OwnsTx; simpa using ho') ?_ (fun k h1 h2 => hg.block k h1 (fun e => h2 e.symm))
    exact (Below.refl base w0).grown hg hbase (fun k hk => (World.ownsRow.lt hown k hk).1)
theorem OwnsTx.later {w w' : World} {base B : Nat} {v : Value} {xs : List ByteArray} (h : OwnsTx w base v xs) (hb : Below B w w') (hB : w.heap.size ≤ B) : OwnsTx w' base v xs := by
  have hlt := World.ownsRow.lt h
  obtain ⟨hlen, ⟨rfl, hn⟩ | ⟨g, cap, cur, rfl, hg, hh, hr⟩⟩ := h
  · exact ⟨hlen, .inl ⟨rfl, hn⟩⟩
  · refine ⟨hlen, .inr ⟨g, cap, cur, rfl, hg, ?_, hr⟩⟩
    rw [hb.block g (by have := (hlt g rfl).2; omega)]
    exact hh
theorem OwnsTx.some {w : World} {base : Nat} {v : Value} {xs : List ByteArray} (h : OwnsTx w base v xs) (h0 : xs ≠ []) : ∃ g cap, v = .slice (some ⟨g, 0, none⟩) xs.length cap ∧ xs.length ≤ cap ∧ base ≤ g ∧ g < w.heap.size ∧ ∀ (j : Nat) x, xs[j]? = some x → w.cell? ⟨g, 0 + j, none⟩ = some (.string x) := by
  have hlt := World.ownsRow.lt h
  have h2 := h
  obtain ⟨hlen, ⟨rfl, hn⟩ | ⟨g, cap, cur, rfl, hg, hh, hcap, hr⟩⟩ := h
  · exact absurd (List.length_eq_zero_iff.1 hn) h0
  · refine ⟨g, cap, rfl, hcap, hg, (hlt g rfl).2, fun j x hx => ?_⟩
    have hj := (List.getElem?_eq_some_iff.1 hx).1
    rw [Nat.zero_add, World.ownsRow.cellAt h2 j (by omega), List.getElem?_map, hx]
    rfl
/-- The text of an edge, without the space. -/
def partE (e : Ed) : ByteArray := fmtB e.1 ++ ⟨#[chr e.2.1]⟩ ++ fmtB e.2.2
theorem partE_list (e : Ed) : 32 :: (partE e).data.toList = fmtE e := by unfold partE fmtE; simp [fmtB_list]
theorem join_parts (r s : Int) (es : List Ed) : Lib.join ((fmtB r :: fmtB s :: es.map partE).map (·.data.toList)) [32] = fmtG r s es := by
  rw [List.map_cons, Lib.join_cons]
  unfold fmtG fmtHead Lib.joinTail
  have : ∀ es : List Ed, ((es.map partE).map (·.data.toList)).map ([32] ++ ·) = es.map fmtE := by
    intro es
    induction es with
    | nil => rfl
    | cons e es ih =>
      simp only [List.map_cons]
      rw [ih]
      congr 1
      rw [← partE_list]
      rfl
  have h2 : ∀ es : List Ed, (es.map fmtE).flatten = fmtEs es := by
    intro es
    induction es with
    | nil => rfl
    | cons e es ih => simp only [List.map_cons, List.flatten_cons, fmtEs, ih]
  simp only [List.map_cons, List.flatten_cons]
  rw [this, h2, fmtB_list, fmtB_list]
  simp
theorem isGr_in {r s : Int} {es : List Ed} (h : isGr r s es = true) : InE es := by
  intro e he
  obtain ⟨i, hi, rfl⟩ := List.getElem_of_mem he
  obtain ⟨h1, h2, h3, h4, h5, _⟩ := isGr_iff.1 h
  have := h1 i hi
  unfold placeOk edgeOk at this
  rw [List.getD_eq_getElem?_getD, List.getElem?_eq_getElem hi] at this
  simp only [Bool.and_eq_true, decide_eq_true_eq, Option.getD_some] at this
  have hw : wrap64 (s - 1) = s - 1 := by unfold wrap64; omega
  rw [hw] at this
  exact ⟨by omega, by omega, by omega⟩
set_option maxHeartbeats 6400000 in
theorem progFmtG (w : World) (r s : Int) (v : Value) (es : List Ed) (h : ReadE w.heap.size w v es) (hl : es.length ≤ 1000000000) (htab : Tab w) :
    Calls Tryd.prog 8 #[.agg #[.int .i64 r, .int .i64 s, v]] w (StrRet w (fmtGr r s es)) := by
  obtain ⟨a, cap, rfl, hnc⟩ := h.form
  obtain ⟨n, hn⟩ : ∃ n, n = es.length := ⟨_, rfl⟩
  rw [← hn] at hl hnc ⊢
  rw [← hn] at h
  obtain ⟨w1, hw1⟩ : ∃ w1, w1 = w.alloc (.cells #[.int .i64 r, .int .i64 s, .slice a n cap] 29) := ⟨_, rfl⟩
  have hb1 : Below w.heap.size w w1 := by rw [hw1]; exact (Below.refl _ _).alloc (Nat.le_refl _) _
  have hs1 : w.heap.size < w1.heap.size := by rw [hw1]; simp
  obtain ⟨g0, g1, g2⟩ := box3 hw1
  have hrd1 := (h.below hb1).mono hb1.size
  have his := progIsGr w1 r s (.slice a n cap) es (by rw [hn] at hrd1; exact hn ▸ hrd1) (by omega)
  have hrd := hidI (h.below hb1)
  have htab1 := hidI (htab.below hb1)
  obtain ⟨B, hB⟩ : ∃ B, B = isGr r s es := ⟨_, rfl⟩
  rw [← hB] at his
  obtain ⟨T, hT⟩ : ∃ T, T = fmtGr r s es := ⟨_, rfl⟩
  rw [← hT]
  replace hn := hidI hn
  replace hT := hidI hT
  replace hB := hidI hB
  replace hw1 := hidI hw1
  replace h := hidI h
  replace hrd1 := hidI hrd1
  replace htab := hidI htab
  go_enter Tryd.func8, Tryd.ntmps8
  go_wp2_with fail
  rw [← hw1.out]
  refine his.mono ?_
  rintro e w2 ⟨rfl, hb2⟩
  have p0 := below_cell g0 hb2 hs1
  have p1 := below_cell g1 hb2 hs1
  have p2 := below_cell g2 hb2 hs1
  have hbz := hb1.trans (hb2.mono hb1.size)
  clear his
  cases B with
  | false =>
    have hTn : T = [] := by rw [hT.out]; unfold fmtGr; rw [← hB.out]; rfl
    replace hTn := hidI hTn
    go_wp2
    go_ret
    exact ⟨by rw [hTn.out]; rfl, hbz⟩
  | true =>
    have hTn : T = fmtG r s es := by rw [hT.out]; unfold fmtGr; rw [← hB.out]; rfl
    have hgr := isGr_iff.1 hB.out.symm
    have hie := hidI (isGr_in hB.out.symm)
    have hr : -9223372036854775808 ≤ r ∧ r ≤ 9223372036854775807 := by omega
    have hs : -9223372036854775808 ≤ s ∧ s ≤ 9223372036854775807 := by omega
    have hn120 : n ≤ 120 := by have := hgr.2.2.2.2.2; rw [← hn.out] at this; exact this
    replace hTn := hidI hTn
    replace hgr := hidI hgr
    have hfr := fun x h => implFmt r hr.1 hr.2 x h
    have hfs := fun x h => implFmt s hs.1 hs.2 x h
    obtain ⟨FR, hFR⟩ : ∃ F, F = fmtB r := ⟨_, rfl⟩
    obtain ⟨FS, hFS⟩ : ∃ F, F = fmtB s := ⟨_, rfl⟩
    have hzr := fmtB_size hr
    have hzs := fmtB_size hs
    rw [← hFR] at hzr hfr
    rw [← hFS] at hzs hfs
    replace hFR := hidI hFR
    replace hFS := hidI hFS
    have hlt2 : w.heap.size < w2.heap.size := Nat.lt_of_lt_of_le hs1 hb2.size
    obtain ⟨wd, hwd⟩ : ∃ z, z = w2.drew := ⟨_, rfl⟩
    have hbd : Below w2.heap.size w2 wd := by rw [hwd]; exact below_dn (Below.refl _ _) 1
    have hltd : w.heap.size < wd.heap.size := Nat.lt_of_lt_of_le hlt2 hbd.size
    have x0 := below_cell p0 hbd hlt2
    have x1 := below_cell p1 hbd hlt2
    have x2 := below_cell p2 hbd hlt2
    have htabd := hidI ((htab1.out.below hb2).below hbd)
    replace hwd := hidI hwd
    go_wp2
    refine hideQ (fun _ _ d _ _ h => by cases d <;> exact h) (fun Q' hnorm hpan => ?_)
    refine wp_region_held_drew (S := (fun z => z.cell? ⟨w.heap.size, 0, none⟩ = some (.int .i64 r) ∧ z.cell? ⟨w.heap.size, 1, none⟩ = some (.int .i64 s))) (by kernel_rfl) ?_ (fun hHeld => ?_)
    · try dsimp only
      first | ((repeat' apply And.intro) <;> assumption) | (rw [← hwd.out]; ((repeat' apply And.intro) <;> assumption))
    rw [← hwd.out] at hHeld ⊢
    refine take_at 0 9 (v := ?_) rfl (by kernel_rfl) (by kernel_rfl) (by kernel_rfl) (by kernel_rfl) hpan (Or.inl ⟨by rfl, ?_⟩) (by assumption) ?_
    rotate_left
    · intro w hSw; (try dsimp only at hSw); go_simp; with_reducible rfl
    simp only [Act.put, List.setIfInBounds_toArray, List.set_cons_zero, List.set_cons_succ]
    refine take_at 1 10 (v := ?_) rfl (by kernel_rfl) (by kernel_rfl) (by kernel_rfl) (by kernel_rfl) hpan (Or.inl ⟨by rfl, ?_⟩) (by assumption) ?_
    rotate_left
    · intro w hSw; (try dsimp only at hSw); go_simp; with_reducible rfl
    simp only [Act.put, List.setIfInBounds_toArray, List.set_cons_zero, List.set_cons_succ]
    refine take_at 3 12 (v := ?_) rfl (by kernel_rfl) (by kernel_rfl) (by kernel_rfl) (by kernel_rfl) hpan (Or.inl ⟨by rfl, ?_⟩) (by assumption) ?_
    rotate_left
    · intro w hSw; (try dsimp only at hSw); go_simp; with_reducible rfl
    simp only [Act.put, List.setIfInBounds_toArray, List.set_cons_zero, List.set_cons_succ]
    refine take_at 4 13 (v := ?_) rfl (by kernel_rfl) (by kernel_rfl) (by kernel_rfl) (by kernel_rfl) hpan (Or.inl ⟨by rfl, ?_⟩) (by assumption) ?_
    rotate_left
    · intro w hSw; (try dsimp only at hSw); go_simp; with_reducible rfl
    simp only [Act.put, List.setIfInBounds_toArray, List.set_cons_zero, List.set_cons_succ]
    refine wpAnyH_ready (rs := [2]) (by kernel_rfl) (by simp) ?_
    refine AllReadyH.cons rfl (fun K hK => ?_) AllReadyH.nil
    rw [if_pos (by rfl)]
    go_simp
    refine (hfr wd htabd.out).mono ?_
    rintro e w3 ⟨rfl, hb3⟩
    have y0 := below_cell x0 hb3 hltd
    have y1 := below_cell x1 hb3 hltd
    have htab3 := hidI (htabd.out.below hb3)
    refine hK.out _ _ ?_ (fun hHeld => ?_)
    · try dsimp only
      first | ((repeat' apply And.intro) <;> assumption) | (rw [← hwd.out]; ((repeat' apply And.intro) <;> assumption))
    clear hK
    try simp only [Act.put, List.setIfInBounds_toArray, List.set_cons_zero, List.set_cons_succ]
    refine wpAnyH_ready (rs := [5]) (by kernel_rfl) (by simp) ?_
    refine AllReadyH.cons rfl (fun K hK => ?_) AllReadyH.nil
    rw [if_pos (by rfl)]
    go_simp
    refine (hfs w3 htab3.out).mono ?_
    rintro e w4 ⟨rfl, hb4⟩
    have z0 := below_cell y0 hb4 (Nat.lt_of_lt_of_le hltd hb3.size)
    have z1 := below_cell y1 hb4 (Nat.lt_of_lt_of_le hltd hb3.size)
    have hs4 := hb4.size
    have hs3 := hb3.size
    obtain ⟨w5, hw5⟩ : ∃ z, z = w4.alloc (.cells #[.string FR, .string FS] 9) := ⟨_, rfl⟩
    have hb5 : Below w4.heap.size w4 w5 := by rw [hw5]; exact (Below.refl _ _).alloc (Nat.le_refl _) _
    have hown5 : OwnsTx w5 w.heap.size (.slice (some ⟨w4.heap.size, 0, none⟩) 2 2) [FR, FS] := by rw [hw5]; exact World.ownsRow_lit w4 #[.string FR, .string FS] 2 (by omega) (by unfold maxLen; omega) rfl
    have t0 := below_cell z0 hb5 (by omega)
    have t1 := below_cell z1 hb5 (by omega)
    replace hw5 := hidI hw5
    replace hown5 := hidI hown5
    refine hK.out _ _ ?_ (fun hHeld => ?_)
    · try dsimp only
      first | ((repeat' apply And.intro) <;> assumption) | (rw [← hwd.out]; ((repeat' apply And.intro) <;> assumption))
    clear hK
    try simp only [Act.put, List.setIfInBounds_toArray, List.set_cons_zero, List.set_cons_succ]
    refine wpAnyH_ready (rs := [6]) (by kernel_rfl) (by simp) ?_
    refine AllReadyH.cons rfl (fun K hK => ?_) AllReadyH.nil
    rw [if_pos (by rfl)]
    go_simp
    rw [← hw5.out]
    refine hK.out _ _ ?_ (fun hHeld => ?_)
    · try dsimp only
      first | ((repeat' apply And.intro) <;> assumption) | (rw [← hwd.out]; ((repeat' apply And.intro) <;> assumption))
    clear hK
    try simp only [Act.put, List.setIfInBounds_toArray, List.set_cons_zero, List.set_cons_succ]
    refine take_at 7 3 (v := ?_) rfl (by kernel_rfl) (by kernel_rfl) (by kernel_rfl) (by kernel_rfl) hpan (Or.inl ⟨by rfl, ?_⟩) (by assumption) ?_
    rotate_left
    · intro w hSw; (try dsimp only at hSw); go_simp; with_reducible rfl
    simp only [Act.put, List.setIfInBounds_toArray, List.set_cons_zero, List.set_cons_succ]
    refine wpAnyH_done (by kernel_rfl) ?_ _
    refine hnorm _ _ ?_
    clear hnorm hpan
    repeat clear hHeld
    try simp only [Exit.then]
    have hb05 : Below w.heap.size w w5 := hbz.trans ((hbd.trans ((hb3.trans ((hb4.trans (hb5.mono hb4.size)).mono hb3.size)).mono hbd.size)).mono hbz.size)
    have hq5 : w5.cell? ⟨w.heap.size, 2, none⟩ = some (.slice a n cap) := by
      have k3 := below_cell x2 hb3 hltd
      have k4 := below_cell k3 hb4 (by omega)
      exact below_cell k4 hb5 (by omega)
    clear x0 x1 x2 y0 y1 z0 z1 t0 t1 hb3 hb4 hb5 hbd hltd hfr hfs p0 p1 p2 hzr hzs hs3 hs4
    replace hb05 := hidI hb05
    go_wp2
    go_loopg [3, 19] n (fun g v i wr => ∃ k : Nat, k + g = n ∧ i = .int .i64 k ∧ Hid (OwnsTx wr w.heap.size v (FR :: FS :: (es.take k).map partE)) ∧ Hid (Below w.heap.size w wr))
    case atStart => exact ⟨0, by omega, rfl, hown5, hb05⟩
    case round =>
      clear hown5 hb05 hq5
      obtain ⟨k, hk, rfl, hown, hb⟩ := hrel
      by_cases hlt : k < n
      · obtain ⟨b, off, hab, hBq, c0, c1, c2⟩ := ReadE.at3 (h.out.below hb.out) k (by have := hn.out; omega)
        subst hab
        have hkl : k < es.length := by have := hn.out; omega
        have hie2 := hie.out (es.getD k e0) (by rw [List.getD_eq_getElem?_getD, List.getElem?_eq_getElem hkl]; exact List.getElem_mem hkl)
        have hlet0 := isGr_edge hB.out.symm hkl
        obtain ⟨ef, hef⟩ : ∃ z, z = (es.getD k e0).1 := ⟨_, rfl⟩
        obtain ⟨el, hel⟩ : ∃ z, z = (es.getD k e0).2.1 := ⟨_, rfl⟩
        obtain ⟨et, het⟩ : ∃ z, z = (es.getD k e0).2.2 := ⟨_, rfl⟩
        obtain ⟨FE, hFE⟩ : ∃ F, F = fmtB ef := ⟨_, rfl⟩
        obtain ⟨FT, hFT⟩ : ∃ F, F = fmtB et := ⟨_, rfl⟩
        have hnext : (es.take (k + 1)).map partE = (es.take k).map partE ++ [FE ++ ⟨#[chr el]⟩ ++ FT] := by
          rw [take_one hkl, List.map_append, hFE, hFT, hef, hel, het]; rfl
        rw [← hef] at c0 hie2
        rw [← hel] at c1 hie2 hlet0
        rw [← het] at c2 hie2
        have hlet : lettB el = true := lettB_iff.2 ⟨by omega, by omega, by omega⟩
        have hfw1 : fmtW [el] = [chr el] := by unfold fmtW; simp [hlet]
        have hki : (k : Int) < (n : Int) := by omega
        have hfe := fun x h => implFmt ef hie2.1.1 hie2.1.2 x h
        have hft := fun x h => implFmt et hie2.2.2.1 hie2.2.2.2 x h
        have hze := fmtB_size hie2.1
        have hzt := fmtB_size hie2.2.2
        rw [← hFE] at hze hfe
        rw [← hFT] at hzt hft
        have k1 : ¬ 9223372036854775807 < FE.size + 1 := by omega
        have k2 : ¬ 9223372036854775807 < FE.size + 1 + FT.size := by omega
        have hlk : (FR :: FS :: (es.take k).map partE).length ≤ 1000000000 := by simp; omega
        obtain ⟨L, hL⟩ : ∃ L, L = FR :: FS :: (es.take k).map partE := ⟨_, rfl⟩
        rw [← hL] at hown hlk
        obtain ⟨wn, hwn⟩ : ∃ z, z = wr.alloc (.cells #[.int .i64 ef, .int .i64 el, .int .i64 et] 41) := ⟨_, rfl⟩
        obtain ⟨u0, u1, u2⟩ := box3 hwn
        have hbn : Below wr.heap.size wr wn := by rw [hwn]; exact (Below.refl _ _).alloc (Nat.le_refl _) _
        have hltw : wr.heap.size < wn.heap.size := by rw [hwn]; simp
        obtain ⟨wd, hwd⟩ : ∃ z, z = wn.drew := ⟨_, rfl⟩
        have hbd : Below wn.heap.size wn wd := by rw [hwd]; exact below_dn (Below.refl _ _) 1
        have hsd := hbd.size
        have hsb := hb.out.size
        have x0 := below_cell u0 hbd hltw
        have x1 := below_cell u1 hbd hltw
        have x2 := below_cell u2 hbd hltw
        have htn : Hid (Tab wd) := hidI ((htab.out.below (hb.out.trans ((hbn.trans (hbd.mono hbn.size)).mono hb.out.size))))
        have hgl := hidI (fun k hk => (World.ownsRow.lt hown.out k hk).2)
        replace hown := hidI ((hown.out.later hbn (Nat.le_refl _)).later hbd (Nat.le_refl _))
        replace hef := hidI hef
        replace hel := hidI hel
        replace het := hidI het
        replace hFE := hidI hFE
        replace hFT := hidI hFT
        replace hwn := hidI hwn
        replace hwd := hidI hwd
        replace hnext := hidI hnext
        replace hfw1 := hidI hfw1
        replace hlk := hidI hlk
        replace hL := hidI hL
        replace hk := hidI hk
        clear hlet0 hie2 hze hzt
        go_wp2
        rw [← hwn.out]
        clear u0 u1 u2 c0 c1 c2
        refine hideQ (fun _ _ d _ _ h => by cases d <;> exact h) (fun Q' hnorm hpan => ?_)
        refine wp_region_held_drew (S := (fun z => z.cell? ⟨wr.heap.size, 0, none⟩ = some (.int .i64 ef) ∧ z.cell? ⟨wr.heap.size, 1, none⟩ = some (.int .i64 el) ∧ z.cell? ⟨wr.heap.size, 2, none⟩ = some (.int .i64 et))) (by kernel_rfl) ?_ (fun hHeld => ?_)
        · try dsimp only
          first | ((repeat' apply And.intro) <;> assumption) | (rw [← hwd.out]; ((repeat' apply And.intro) <;> assumption))
        rw [← hwd.out] at hHeld ⊢
        refine take_at 0 23 (v := ?_) rfl (by kernel_rfl) (by kernel_rfl) (by kernel_rfl) (by kernel_rfl) hpan (Or.inl ⟨by rfl, ?_⟩) (by assumption) ?_
        rotate_left
        · intro w hSw; (try dsimp only at hSw); go_simp; with_reducible rfl
        simp only [Act.put, List.setIfInBounds_toArray, List.set_cons_zero, List.set_cons_succ]
        refine take_at 1 24 (v := ?_) rfl (by kernel_rfl) (by kernel_rfl) (by kernel_rfl) (by kernel_rfl) hpan (Or.inl ⟨by rfl, ?_⟩) (by assumption) ?_
        rotate_left
        · intro w hSw; (try dsimp only at hSw); go_simp; with_reducible rfl
        simp only [Act.put, List.setIfInBounds_toArray, List.set_cons_zero, List.set_cons_succ]
        refine take_at 2 25 (v := ?_) rfl (by kernel_rfl) (by kernel_rfl) (by kernel_rfl) (by kernel_rfl) hpan (Or.inl ⟨by rfl, ?_⟩) (by assumption) ?_
        rotate_left
        · intro w hSw; (try dsimp only at hSw); go_simp; with_reducible rfl
        simp only [Act.put, List.setIfInBounds_toArray, List.set_cons_zero, List.set_cons_succ]
        refine take_at 4 27 (v := ?_) rfl (by kernel_rfl) (by kernel_rfl) (by kernel_rfl) (by kernel_rfl) hpan (Or.inl ⟨by rfl, ?_⟩) (by assumption) ?_
        rotate_left
        · intro w hSw; (try dsimp only at hSw); go_simp; with_reducible rfl
        simp only [Act.put, List.setIfInBounds_toArray, List.set_cons_zero, List.set_cons_succ]
        refine take_at 5 28 (v := ?_) rfl (by kernel_rfl) (by kernel_rfl) (by kernel_rfl) (by kernel_rfl) hpan (Or.inl ⟨by rfl, ?_⟩) (by assumption) ?_
        rotate_left
        · intro w hSw; (try dsimp only at hSw); go_simp; with_reducible rfl
        simp only [Act.put, List.setIfInBounds_toArray, List.set_cons_zero, List.set_cons_succ]
        refine take_at 9 32 (v := ?_) rfl (by kernel_rfl) (by kernel_rfl) (by kernel_rfl) (by kernel_rfl) hpan (Or.inl ⟨by rfl, ?_⟩) (by assumption) ?_
        rotate_left
        · intro w hSw; (try dsimp only at hSw); go_simp; with_reducible rfl
        simp only [Act.put, List.setIfInBounds_toArray, List.set_cons_zero, List.set_cons_succ]
        refine take_at 10 33 (v := ?_) rfl (by kernel_rfl) (by kernel_rfl) (by kernel_rfl) (by kernel_rfl) hpan (Or.inl ⟨by rfl, ?_⟩) (by assumption) ?_
        rotate_left
        · intro w hSw; (try dsimp only at hSw); go_simp; with_reducible rfl
        simp only [Act.put, List.setIfInBounds_toArray, List.set_cons_zero, List.set_cons_succ]
        refine wpAnyH_ready (rs := [3, 6]) (by kernel_rfl) (by simp) ?_
        refine AllReadyH.cons rfl (fun K hK => ?_) ?_
        ·
          rw [if_pos (by rfl)]
          go_simp
          refine (hfe wd htn.out).mono ?_
          rintro e v0 ⟨rfl, hv0⟩
          have hz0 := hv0.size
          replace x0 := below_cell x0 hv0 (by omega)
          replace x1 := below_cell x1 hv0 (by omega)
          replace x2 := below_cell x2 hv0 (by omega)
          replace htn := hidI (htn.out.below hv0)
          replace hown := hidI (hown.out.later hv0 (Nat.le_refl _))
          refine hK.out _ _ ?_ (fun hHeld => ?_)
          · try dsimp only
            ((repeat' apply And.intro) <;> assumption)
          clear hK
          try simp only [Act.put, List.setIfInBounds_toArray, List.set_cons_zero, List.set_cons_succ]
          refine wpAnyH_ready (rs := [6]) (by kernel_rfl) (by simp) ?_
          refine AllReadyH.cons rfl (fun K hK => ?_) AllReadyH.nil
          rw [if_pos (by rfl)]
          go_simp
          obtain ⟨v1, hn1⟩ : ∃ z, z = v0.alloc (.cells #[.int .i64 el] 3) := ⟨_, rfl⟩
          have hv1 : Below v0.heap.size v0 v1 := by rw [hn1]; exact (Below.refl _ _).alloc (Nat.le_refl _) _
          have hlb := heap_alloc_new v0 (.cells #[.int .i64 el] 3)
          rw [← hn1] at hlb
          rw [← hn1]
          replace hn1 := hidI hn1
          have hlc : v1.cell? ⟨v0.heap.size, 0, none⟩ = some (.int .i64 el) := by simpa using cell_of_heap hlb 0
          have hll : v0.heap.size < v1.heap.size := by have := (Array.getElem?_eq_some_iff.1 hlb).1; exact this
          clear hlb
          have hz1 := hv1.size
          replace x0 := below_cell x0 hv1 (by omega)
          replace x1 := below_cell x1 hv1 (by omega)
          replace x2 := below_cell x2 hv1 (by omega)
          replace htn := hidI (htn.out.below hv1)
          replace hown := hidI (hown.out.later hv1 (Nat.le_refl _))
          refine hK.out _ _ ?_ (fun hHeld => ?_)
          · try dsimp only
            ((repeat' apply And.intro) <;> assumption)
          clear hK
          try simp only [Act.put, List.setIfInBounds_toArray, List.set_cons_zero, List.set_cons_succ]
          refine wpAnyH_ready (rs := [7]) (by kernel_rfl) (by simp) ?_
          refine AllReadyH.cons rfl (fun K hK => ?_) AllReadyH.nil
          rw [if_pos (by rfl)]
          go_simp
          have hread7 : ReadI v1.heap.size v1 (.slice (some ⟨v0.heap.size, 0, none⟩) 1 1) [el] := ⟨by simp, _, 1, rfl, ⟨(fun h => by cases h), by simp⟩, .inr ⟨v0.heap.size, 0, rfl, by omega, fun k hk => by
            obtain rfl : k = 0 := by simp at hk; omega
            simpa using hlc⟩⟩
          have hfw := format_any v1 _ [el] hread7 (by simp)
          rw [hfw1.out] at hfw
          refine hfw.mono ?_
          rintro e v2 ⟨rfl, hv2⟩
          clear hread7 hfw hlc
          have hz2 := hv2.size
          replace x0 := below_cell x0 hv2 (by omega)
          replace x1 := below_cell x1 hv2 (by omega)
          replace x2 := below_cell x2 hv2 (by omega)
          replace htn := hidI (htn.out.below hv2)
          replace hown := hidI (hown.out.later hv2 (Nat.le_refl _))
          refine hK.out _ _ ?_ (fun hHeld => ?_)
          · try dsimp only
            ((repeat' apply And.intro) <;> assumption)
          clear hK
          try simp only [Act.put, List.setIfInBounds_toArray, List.set_cons_zero, List.set_cons_succ]
          refine take_at 8 31 (v := ?_) rfl (by kernel_rfl) (by kernel_rfl) (by kernel_rfl) (by kernel_rfl) hpan (Or.inl ⟨by rfl, ?_⟩) (by assumption) ?_
          rotate_left
          · intro w hSw; (try dsimp only at hSw); go_simp; with_reducible rfl
          simp only [Act.put, List.setIfInBounds_toArray, List.set_cons_zero, List.set_cons_succ]
          refine wpAnyH_ready (rs := [11]) (by kernel_rfl) (by simp) ?_
          refine AllReadyH.cons rfl (fun K hK => ?_) AllReadyH.nil
          rw [if_pos (by rfl)]
          go_simp
          refine (hft v2 htn.out).mono ?_
          rintro e v3 ⟨rfl, hv3⟩
          have hz3 := hv3.size
          replace x0 := below_cell x0 hv3 (by omega)
          replace x1 := below_cell x1 hv3 (by omega)
          replace x2 := below_cell x2 hv3 (by omega)
          replace htn := hidI (htn.out.below hv3)
          replace hown := hidI (hown.out.later hv3 (Nat.le_refl _))
          refine hK.out _ _ ?_ (fun hHeld => ?_)
          · try dsimp only
            ((repeat' apply And.intro) <;> assumption)
          clear hK
          try simp only [Act.put, List.setIfInBounds_toArray, List.set_cons_zero, List.set_cons_succ]
          refine take_at 12 35 (v := ?_) rfl (by kernel_rfl) (by kernel_rfl) (by kernel_rfl) (by kernel_rfl) hpan (Or.inl ⟨by rfl, ?_⟩) (by assumption) ?_
          rotate_left
          · intro w hSw; (try dsimp only at hSw); go_simp; with_reducible rfl
          simp only [Act.put, List.setIfInBounds_toArray, List.set_cons_zero, List.set_cons_succ]
          refine wpAnyH_ready (rs := [13]) (by kernel_rfl) (by simp) ?_
          refine AllReadyH.cons rfl (fun K hK => ?_) AllReadyH.nil
          rw [if_pos (by rfl)]
          go_simp
          obtain ⟨v4, hn4⟩ : ∃ z, z = v3.alloc (.cells #[.string (FE ++ ⟨#[chr el]⟩ ++ FT)] 9) := ⟨_, rfl⟩
          have hv4 : Below v3.heap.size v3 v4 := by rw [hn4]; exact (Below.refl _ _).alloc (Nat.le_refl _) _
          have hlb := heap_alloc_new v3 (.cells #[.string (FE ++ ⟨#[chr el]⟩ ++ FT)] 9)
          rw [← hn4] at hlb
          rw [← hn4]
          replace hn4 := hidI hn4
          have hlp : v4.cell? ⟨v3.heap.size, 0, none⟩ = some (.string (FE ++ ⟨#[chr el]⟩ ++ FT)) := by simpa using cell_of_heap hlb 0
          clear hlb
          have hz4 := hv4.size
          replace x0 := below_cell x0 hv4 (by omega)
          replace x1 := below_cell x1 hv4 (by omega)
          replace x2 := below_cell x2 hv4 (by omega)
          replace htn := hidI (htn.out.below hv4)
          replace hown := hidI (hown.out.later hv4 (Nat.le_refl _))
          refine hK.out _ _ ?_ (fun hHeld => ?_)
          · try dsimp only
            ((repeat' apply And.intro) <;> assumption)
          clear hK
          try simp only [Act.put, List.setIfInBounds_toArray, List.set_cons_zero, List.set_cons_succ]
          refine wpAnyH_ready (rs := [14]) (by kernel_rfl) (by simp) ?_
          refine AllReadyH.cons rfl (fun K hK => ?_) AllReadyH.nil
          rw [if_pos (by rfl)]
          refine step_pushB _ _ rfl w.heap.size _ _ (FE ++ ⟨#[chr el]⟩ ++ FT) v3.heap.size rfl rfl hlp hown.out (by have := hlk.out; omega) (by omega) ?_
          intro vn v5 hownn hv5 hkeep
          replace hownn := hidI hownn
          clear hlp
          have hz5 := hv5.size
          replace x0 := (World.cell?_of_block (a := (⟨wr.heap.size, 0, none⟩ : Addr)) (hkeep wr.heap.size (by omega) (fun he => by have := hgl.out _ he; omega))).trans x0
          replace x1 := (World.cell?_of_block (a := (⟨wr.heap.size, 1, none⟩ : Addr)) (hkeep wr.heap.size (by omega) (fun he => by have := hgl.out _ he; omega))).trans x1
          replace x2 := (World.cell?_of_block (a := (⟨wr.heap.size, 2, none⟩ : Addr)) (hkeep wr.heap.size (by omega) (fun he => by have := hgl.out _ he; omega))).trans x2
          clear hkeep
          refine hK.out _ _ ?_ (fun hHeld => ?_)
          · try dsimp only
            ((repeat' apply And.intro) <;> assumption)
          clear hK
          try simp only [Act.put, List.setIfInBounds_toArray, List.set_cons_zero, List.set_cons_succ]
          refine take_at 15 3 (v := ?_) rfl (by kernel_rfl) (by kernel_rfl) (by kernel_rfl) (by kernel_rfl) hpan (Or.inl ⟨by rfl, ?_⟩) (by assumption) ?_
          rotate_left
          · intro w hSw; (try dsimp only at hSw); go_simp; with_reducible rfl
          simp only [Act.put, List.setIfInBounds_toArray, List.set_cons_zero, List.set_cons_succ]
          refine wpAnyH_done (by kernel_rfl) ?_ _
          refine hnorm _ _ ?_
          clear hnorm hpan
          repeat clear hHeld
          try simp only [Exit.then]
          have hbq : Below w.heap.size w v5 := by
            have k0 := hb.out.trans ((hbn.trans (hbd.mono hbn.size)).mono hb.out.size)
            have k1 := k0.trans (hv0.mono k0.size)
            have k2 := k1.trans (hv1.mono k1.size)
            have k3 := k2.trans (hv2.mono k2.size)
            have k4 := k3.trans (hv3.mono k3.size)
            have k5 := k4.trans (hv4.mono k4.size)
            exact k5.trans hv5
          replace hbq := hidI hbq
          have hownz : Hid (OwnsTx v5 w.heap.size vn (FR :: FS :: (es.take (k + 1)).map partE)) := hidI (by
            have hx := hownn.out
            rw [hL.out] at hx
            rw [hnext.out]
            simpa using hx)
          clear hown hownn hv0 hv1 hv2 hv3 hv4 hv5 x0 x1 x2
          go_wp2
          go_roundg (n - (k + 1))
          case rel => exact ⟨k + 1, by have := hk.out; omega, by go_num, hownz, hbq⟩
          case measure => have := hk.out; omega
        refine AllReadyH.cons rfl (fun K hK => ?_) AllReadyH.nil
        rw [if_pos (by rfl)]
        go_simp
        obtain ⟨v0, hn0⟩ : ∃ z, z = wd.alloc (.cells #[.int .i64 el] 3) := ⟨_, rfl⟩
        have hv0 : Below wd.heap.size wd v0 := by rw [hn0]; exact (Below.refl _ _).alloc (Nat.le_refl _) _
        have hlb := heap_alloc_new wd (.cells #[.int .i64 el] 3)
        rw [← hn0] at hlb
        rw [← hn0]
        replace hn0 := hidI hn0
        have hlc : v0.cell? ⟨wd.heap.size, 0, none⟩ = some (.int .i64 el) := by simpa using cell_of_heap hlb 0
        have hll : wd.heap.size < v0.heap.size := by have := (Array.getElem?_eq_some_iff.1 hlb).1; exact this
        clear hlb
        have hz0 := hv0.size
        replace x0 := below_cell x0 hv0 (by omega)
        replace x1 := below_cell x1 hv0 (by omega)
        replace x2 := below_cell x2 hv0 (by omega)
        replace htn := hidI (htn.out.below hv0)
        replace hown := hidI (hown.out.later hv0 (Nat.le_refl _))
        refine hK.out _ _ ?_ (fun hHeld => ?_)
        · try dsimp only
          ((repeat' apply And.intro) <;> assumption)
        clear hK
        try simp only [Act.put, List.setIfInBounds_toArray, List.set_cons_zero, List.set_cons_succ]
        refine wpAnyH_ready (rs := [3]) (by kernel_rfl) (by simp) ?_
        refine AllReadyH.cons rfl (fun K hK => ?_) AllReadyH.nil
        rw [if_pos (by rfl)]
        go_simp
        refine (hfe v0 htn.out).mono ?_
        rintro e v1 ⟨rfl, hv1⟩
        have hz1 := hv1.size
        replace x0 := below_cell x0 hv1 (by omega)
        replace x1 := below_cell x1 hv1 (by omega)
        replace x2 := below_cell x2 hv1 (by omega)
        replace htn := hidI (htn.out.below hv1)
        replace hown := hidI (hown.out.later hv1 (Nat.le_refl _))
        replace hlc := below_cell hlc hv1 (by omega)
        refine hK.out _ _ ?_ (fun hHeld => ?_)
        · try dsimp only
          ((repeat' apply And.intro) <;> assumption)
        clear hK
        try simp only [Act.put, List.setIfInBounds_toArray, List.set_cons_zero, List.set_cons_succ]
        refine wpAnyH_ready (rs := [7]) (by kernel_rfl) (by simp) ?_
        refine AllReadyH.cons rfl (fun K hK => ?_) AllReadyH.nil
        rw [if_pos (by rfl)]
        go_simp
        have hread7 : ReadI v1.heap.size v1 (.slice (some ⟨wd.heap.size, 0, none⟩) 1 1) [el] := ⟨by simp, _, 1, rfl, ⟨(fun h => by cases h), by simp⟩, .inr ⟨wd.heap.size, 0, rfl, by omega, fun k hk => by
          obtain rfl : k = 0 := by simp at hk; omega
          simpa using hlc⟩⟩
        have hfw := format_any v1 _ [el] hread7 (by simp)
        rw [hfw1.out] at hfw
        refine hfw.mono ?_
        rintro e v2 ⟨rfl, hv2⟩
        clear hread7 hfw hlc
        have hz2 := hv2.size
        replace x0 := below_cell x0 hv2 (by omega)
        replace x1 := below_cell x1 hv2 (by omega)
        replace x2 := below_cell x2 hv2 (by omega)
        replace htn := hidI (htn.out.below hv2)
        replace hown := hidI (hown.out.later hv2 (Nat.le_refl _))
        refine hK.out _ _ ?_ (fun hHeld => ?_)
        · try dsimp only
          ((repeat' apply And.intro) <;> assumption)
        clear hK
        try simp only [Act.put, List.setIfInBounds_toArray, List.set_cons_zero, List.set_cons_succ]
        refine take_at 8 31 (v := ?_) rfl (by kernel_rfl) (by kernel_rfl) (by kernel_rfl) (by kernel_rfl) hpan (Or.inl ⟨by rfl, ?_⟩) (by assumption) ?_
        rotate_left
        · intro w hSw; (try dsimp only at hSw); go_simp; with_reducible rfl
        simp only [Act.put, List.setIfInBounds_toArray, List.set_cons_zero, List.set_cons_succ]
        refine wpAnyH_ready (rs := [11]) (by kernel_rfl) (by simp) ?_
        refine AllReadyH.cons rfl (fun K hK => ?_) AllReadyH.nil
        rw [if_pos (by rfl)]
        go_simp
        refine (hft v2 htn.out).mono ?_
        rintro e v3 ⟨rfl, hv3⟩
        have hz3 := hv3.size
        replace x0 := below_cell x0 hv3 (by omega)
        replace x1 := below_cell x1 hv3 (by omega)
        replace x2 := below_cell x2 hv3 (by omega)
        replace htn := hidI (htn.out.below hv3)
        replace hown := hidI (hown.out.later hv3 (Nat.le_refl _))
        refine hK.out _ _ ?_ (fun hHeld => ?_)
        · try dsimp only
          ((repeat' apply And.intro) <;> assumption)
        clear hK
        try simp only [Act.put, List.setIfInBounds_toArray, List.set_cons_zero, List.set_cons_succ]
        refine take_at 12 35 (v := ?_) rfl (by kernel_rfl) (by kernel_rfl) (by kernel_rfl) (by kernel_rfl) hpan (Or.inl ⟨by rfl, ?_⟩) (by assumption) ?_
        rotate_left
        · intro w hSw; (try dsimp only at hSw); go_simp; with_reducible rfl
        simp only [Act.put, List.setIfInBounds_toArray, List.set_cons_zero, List.set_cons_succ]
        refine wpAnyH_ready (rs := [13]) (by kernel_rfl) (by simp) ?_
        refine AllReadyH.cons rfl (fun K hK => ?_) AllReadyH.nil
        rw [if_pos (by rfl)]
        go_simp
        obtain ⟨v4, hn4⟩ : ∃ z, z = v3.alloc (.cells #[.string (FE ++ ⟨#[chr el]⟩ ++ FT)] 9) := ⟨_, rfl⟩
        have hv4 : Below v3.heap.size v3 v4 := by rw [hn4]; exact (Below.refl _ _).alloc (Nat.le_refl _) _
        have hlb := heap_alloc_new v3 (.cells #[.string (FE ++ ⟨#[chr el]⟩ ++ FT)] 9)
        rw [← hn4] at hlb
        rw [← hn4]
        replace hn4 := hidI hn4
        have hlp : v4.cell? ⟨v3.heap.size, 0, none⟩ = some (.string (FE ++ ⟨#[chr el]⟩ ++ FT)) := by simpa using cell_of_heap hlb 0
        clear hlb
        have hz4 := hv4.size
        replace x0 := below_cell x0 hv4 (by omega)
        replace x1 := below_cell x1 hv4 (by omega)
        replace x2 := below_cell x2 hv4 (by omega)
        replace htn := hidI (htn.out.below hv4)
        replace hown := hidI (hown.out.later hv4 (Nat.le_refl _))
        refine hK.out _ _ ?_ (fun hHeld => ?_)
        · try dsimp only
          ((repeat' apply And.intro) <;> assumption)
        clear hK
        try simp only [Act.put, List.setIfInBounds_toArray, List.set_cons_zero, List.set_cons_succ]
        refine wpAnyH_ready (rs := [14]) (by kernel_rfl) (by simp) ?_
        refine AllReadyH.cons rfl (fun K hK => ?_) AllReadyH.nil
        rw [if_pos (by rfl)]
        refine step_pushB _ _ rfl w.heap.size _ _ (FE ++ ⟨#[chr el]⟩ ++ FT) v3.heap.size rfl rfl hlp hown.out (by have := hlk.out; omega) (by omega) ?_
        intro vn v5 hownn hv5 hkeep
        replace hownn := hidI hownn
        clear hlp
        have hz5 := hv5.size
        replace x0 := (World.cell?_of_block (a := (⟨wr.heap.size, 0, none⟩ : Addr)) (hkeep wr.heap.size (by omega) (fun he => by have := hgl.out _ he; omega))).trans x0
        replace x1 := (World.cell?_of_block (a := (⟨wr.heap.size, 1, none⟩ : Addr)) (hkeep wr.heap.size (by omega) (fun he => by have := hgl.out _ he; omega))).trans x1
        replace x2 := (World.cell?_of_block (a := (⟨wr.heap.size, 2, none⟩ : Addr)) (hkeep wr.heap.size (by omega) (fun he => by have := hgl.out _ he; omega))).trans x2
        clear hkeep
        refine hK.out _ _ ?_ (fun hHeld => ?_)
        · try dsimp only
          ((repeat' apply And.intro) <;> assumption)
        clear hK
        try simp only [Act.put, List.setIfInBounds_toArray, List.set_cons_zero, List.set_cons_succ]
        refine take_at 15 3 (v := ?_) rfl (by kernel_rfl) (by kernel_rfl) (by kernel_rfl) (by kernel_rfl) hpan (Or.inl ⟨by rfl, ?_⟩) (by assumption) ?_
        rotate_left
        · intro w hSw; (try dsimp only at hSw); go_simp; with_reducible rfl
        simp only [Act.put, List.setIfInBounds_toArray, List.set_cons_zero, List.set_cons_succ]
        refine wpAnyH_done (by kernel_rfl) ?_ _
        refine hnorm _ _ ?_
        clear hnorm hpan
        repeat clear hHeld
        try simp only [Exit.then]
        have hbq : Below w.heap.size w v5 := by
          have k0 := hb.out.trans ((hbn.trans (hbd.mono hbn.size)).mono hb.out.size)
          have k1 := k0.trans (hv0.mono k0.size)
          have k2 := k1.trans (hv1.mono k1.size)
          have k3 := k2.trans (hv2.mono k2.size)
          have k4 := k3.trans (hv3.mono k3.size)
          have k5 := k4.trans (hv4.mono k4.size)
          exact k5.trans hv5
        replace hbq := hidI hbq
        have hownz : Hid (OwnsTx v5 w.heap.size vn (FR :: FS :: (es.take (k + 1)).map partE)) := hidI (by
          have hx := hownn.out
          rw [hL.out] at hx
          rw [hnext.out]
          simpa using hx)
        clear hown hownn hv0 hv1 hv2 hv3 hv4 hv5 x0 x1 x2
        go_wp2
        go_roundg (n - (k + 1))
        case rel => exact ⟨k + 1, by have := hk.out; omega, by go_num, hownz, hbq⟩
        case measure => have := hk.out; omega
      · obtain rfl : k = n := by omega
        have hfull : es.take k = es := List.take_of_length_le (by rw [← hn.out]; omega)
        rw [hfull] at hown
        have hki : ¬ (k : Int) < (k : Int) := by omega
        obtain ⟨g, cp, rfl, hcp, hlg, hgs, hcell⟩ := hown.out.some (by simp)
        have hj := join_parts r s es
        rw [← hFR.out, ← hFS.out, ← hTn.out] at hj
        have hTl : T.length ≤ 140737488355328 := by
          rw [hTn.out]
          unfold fmtG fmtHead
          have h1 := itoa_length hr
          have h2 := itoa_length hs
          have h3 := fmtEs_length hie.out
          have := hn.out
          simp
          omega
        have hcall := Tryd.strings_Join g 0 cp (FR :: FS :: es.map partE) ⟨#[32]⟩ wr hcell hgs (by simp; have := hn.out; omega) hcp (by rw [show ((⟨#[32]⟩ : ByteArray).data.toList) = [32] from rfl, hj]; exact hTl)
        rw [show ((⟨#[32]⟩ : ByteArray).data.toList) = [32] from rfl, hj] at hcall
        obtain ⟨pn, hpn⟩ : ∃ pn, pn = (FR :: FS :: es.map partE).length := ⟨_, rfl⟩
        rw [← hpn] at hcall ⊢
        replace hpn := hidI hpn
        replace hcell := hidI hcell
        replace hj := hidI hj
        replace hk := hidI hk
        replace hfull := hidI hfull
        replace hown := hidI hown
        clear hTl hcp
        go_wp2_with fail
        refine hcall.mono ?_
        rintro e w6 ⟨rfl, hb6⟩
        have hbq := hb.out.trans (hb6.mono hb.out.size)
        go_wp2
        go_ret
        exact ⟨rfl, hbq⟩
end Go.Proofs.YtkmhncbakfnfeaaDoor
