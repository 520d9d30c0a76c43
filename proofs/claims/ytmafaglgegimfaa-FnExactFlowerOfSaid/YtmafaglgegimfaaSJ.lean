/- Paths of new edges, the program: AddPath. -/
import Derived.Test.YtmafaglgegimfaaSH
namespace Go.Proofs.Ytmafaglgegimfaa
open Go.RowKit
set_option linter.unusedVariables false
set_option linter.unusedSimpArgs false

theorem KeptBut.of_grown {B G g : Nat} {a b : World} (h : a.grownBy b (some g)) (hB : B ≤ a.heap.size) (hg : B ≤ g) : KeptBut B G a b :=
  ⟨h.os, h.tape, h.output, h.size, fun k hk _ => h.block k (by omega) (fun e => by cases e; omega)⟩
theorem KeptBut.set {B G j : Nat} {a b : World} {x : Value} (h : KeptBut B G a b) : KeptBut B G a (b.setCell ⟨G, j, none⟩ x) :=
  ⟨h.1, h.2.1, h.2.2.1, by simpa [World.setCell] using h.2.2.2.1, fun k hk hne => by rw [Below.heap_setCell _ _ _ _ hne]; exact h.2.2.2.2 k hk hne⟩
theorem PathSt.sized {w : World} {G A base : Nat} {r s y : Int} {v : Value} {es : List Ed} (h : PathSt w G A base r s y v es) (s' : Int) : PathSt (w.setCell ⟨G, 1, none⟩ (.int .i64 s')) G A base r s' y v es := by
  obtain ⟨h1, h2, h3, h4, h5, h6⟩ := h
  have hne : A ≠ G := by omega
  refine ⟨?_, by rw [Below.heap_setCell _ _ _ _ hne]; exact h2, OwnsS.other h3 (fun k hk => Below.heap_setCell _ _ _ _ (by rintro rfl; exact h4 hk)), h4, h5, ⟨h6.1, h6.2.1, by simpa [World.setCell] using h6.2.2⟩⟩
  have := heap_setCell_same w G 1 _ _ (.int .i64 s') h1
  simpa using this
theorem own_some {w : World} {base : Nat} {v : Value} {es : List Ed} (h : OwnsE w base v es) (h0 : es ≠ []) : ∃ g cap, v = .slice (some ⟨g, 0, none⟩) es.length cap ∧ base ≤ g ∧ g < w.heap.size := by
  have hlt := World.ownsRow.lt h
  obtain ⟨_, ⟨_, h2⟩ | ⟨g, cap, cur, hv, _⟩⟩ := h
  · exact absurd (List.length_eq_zero_iff.1 h2) h0
  · exact ⟨g, cap, hv, (hlt g (by rw [hv]; rfl)).1, (hlt g (by rw [hv]; rfl)).2⟩
/-- The answer, behind the last stores. -/
theorem path_fin {w w4 w9 : World} {G R base cap : Nat} {r s' : Int} {E : List Ed} {b : Bool} (hG : G = w.heap.size) (hR : R = G + 1) (hbase : base = R + 1) (hb4 : Below w.heap.size w w4) (hk : KeptBut base G w4 w9) (a : Option Addr) (hown : OwnsE w9 base (.slice a E.length cap) E) (hl : E.length ≤ 1000000000) (hs : base ≤ w9.heap.size)
    (hgr : ∀ k, (Value.slice a E.length cap).ownBlock = some k → base ≤ k) :
    LwGraphBool w r s' E b (.returned (.tuple #[.agg #[.int .i64 r, .int .i64 s', .slice a E.length cap], .bool b])) (((w9.setCell ⟨R, 0, none⟩ (.int .i64 r)).setCell ⟨R, 1, none⟩ (.int .i64 s')).setCell ⟨R, 2, none⟩ (.slice a E.length cap)) := by
  have hb9 : Below w.heap.size w w9 := hb4.trans (by have := hk.below (show G ≤ base by omega); rw [hG] at this; exact this)
  refine ⟨a, cap, rfl, ?_, below_set3 hb9 (by omega)⟩
  have hrow : OwnsE (((w9.setCell ⟨R, 0, none⟩ (.int .i64 r)).setCell ⟨R, 1, none⟩ (.int .i64 s')).setCell ⟨R, 2, none⟩ (.slice a E.length cap)) base (.slice a E.length cap) E := OwnsS.other hown (fun k hk => by
    have := hgr k hk
    rw [heap_set3 (by omega)])
  exact (OwnsS.row hrow (by omega)).wide (by omega) (Nat.le_refl _)
set_option maxRecDepth 100000 in
set_option maxHeartbeats 6400000 in
theorem progAddPath (w : World) (r s u v : Int) (va vw : Value) (es : List Ed) (wd : List Int) (h : ReadE w.heap.size w va es) (hl : es.length ≤ 10000000) (hw : ReadI w.heap.size w vw wd) (hwl : wd.length ≤ 10000000) :
    Calls Try.prog 26 #[.agg #[.int .i64 r, .int .i64 s, va], .int .i64 u, vw, .int .i64 v] w (LwGraphBool w r (pthS r s es u wd v) (pthE r s es u wd v) (tkP r s es u wd v)) := by
  obtain ⟨a, cap, rfl, hnc⟩ := h.form
  obtain ⟨m, hm⟩ : ∃ m, m = es.length := ⟨_, rfl⟩
  have h0 := h
  rw [← hm] at h
  obtain ⟨w1, hw1⟩ : ∃ z, z = (w.alloc (.cells #[.int .i64 r, .int .i64 s, .slice a m cap] 30)).alloc (.cells #[.int .i64 0, .int .i64 0, .slice none 0 0] 30) := ⟨_, rfl⟩
  have hb1 : Below w.heap.size w w1 := by rw [hw1]; exact ((Below.refl _ _).alloc (Nat.le_refl _) _).alloc (by simp) _
  have hs1 : w1.heap.size = w.heap.size + 1 + 1 := by rw [hw1]; simp
  have hg := heap_box w (.cells #[.int .i64 r, .int .i64 s, .slice a m cap] 30) (.cells #[.int .i64 0, .int .i64 0, .slice none 0 0] 30)
  have hk := heap_alloc_new (w.alloc (.cells #[.int .i64 r, .int .i64 s, .slice a m cap] 30)) (.cells #[.int .i64 0, .int .i64 0, .slice none 0 0] 30)
  rw [← hw1] at hg hk
  rw [show (w.alloc (.cells #[.int .i64 r, .int .i64 s, .slice a m cap] 30)).heap.size = w.heap.size + 1 by simp] at hk
  have g0 : w1.cell? ⟨w.heap.size, 0, none⟩ = some (.int .i64 r) := by simpa using cell_of_heap hg 0
  have g1 : w1.cell? ⟨w.heap.size, 1, none⟩ = some (.int .i64 s) := by simpa using cell_of_heap hg 1
  have g2 : w1.cell? ⟨w.heap.size, 2, none⟩ = some (.slice a m cap) := by simpa using cell_of_heap hg 2
  have hcopy := gpCopyO w1 r s (.slice a es.length cap) es ((h0.below hb1).mono hb1.size) (by omega)
  rw [← hm] at hcopy ⊢
  obtain ⟨B, hB⟩ : ∃ B, B = tkP r s es u wd v := ⟨_, rfl⟩
  obtain ⟨PS, hPS⟩ : ∃ B, B = pthS r s es u wd v := ⟨_, rfl⟩
  obtain ⟨PE, hPE⟩ : ∃ B, B = pthE r s es u wd v := ⟨_, rfl⟩
  rw [← hB, ← hPS, ← hPE]
  have hfalse : B = false → PS = s ∧ PE = es := fun hf => by
    rw [hPS, hPE]; unfold pthS pthE; rw [← hB, hf]; exact ⟨rfl, rfl⟩
  have htrue : B = true → PS = s + wd.length - 1 ∧ PE = putAll es (pathK s u v wd wd.length) := fun hf => by
    rw [hPS, hPE]; unfold pthS pthE; rw [← hB, hf]; exact ⟨rfl, rfl⟩
  replace hm := hidI hm
  replace hB := hidI hB
  replace hPS := hidI hPS
  replace hPE := hidI hPE
  replace hfalse := hidI hfalse
  replace htrue := hidI htrue
  replace h := hidI h
  replace h0 := hidI h0
  replace hg := hidI hg
  replace hk := hidI hk
  obtain ⟨hwz, aw, cw, rfl, hwn, hwc⟩ := hw
  have hw9 : ReadI w.heap.size w (.slice aw wd.length cw) wd := ⟨hwz, aw, cw, rfl, hwn, hwc⟩
  clear hwn hwc hwz
  obtain ⟨n, hn⟩ : ∃ n, n = wd.length := ⟨_, rfl⟩
  rw [← hn] at hw9 hwl ⊢
  replace hn := hidI hn
  replace hw9 := hidI hw9
  replace hnc := hidI hnc
  replace hs1 := hidI hs1
  go_enter Try.func26, Try.ntmps26
  go_upto_region 1 with fail
  rw [← hw1]
  replace hw1 := hidI hw1
  go_wp2_with fail
  refine hcopy.mono ?_
  rintro e w2 ⟨b, cap2, rfl, hown2, hb2⟩
  rw [← hm.out]
  rw [← hm.out] at hown2
  clear hcopy
  have hlt2 := World.ownsRow.lt hown2
  have hG2 : w2.heap[w.heap.size]? = some (.cells #[.int .i64 r, .int .i64 s, .slice a m cap] 30 (0, 0)) := by rw [hb2.block _ (by have := hs1.out; omega)]; exact hg.out
  have hR2 : w2.heap[w.heap.size + 1]? = some (.cells #[.int .i64 0, .int .i64 0, .slice none 0 0] 30 (0, 0)) := by rw [hb2.block _ (by have := hs1.out; omega)]; exact hk.out
  have q0 := cell_of_heap hG2 0
  have q1 := cell_of_heap hG2 1
  have q2 := cell_of_heap hG2 2
  have f1 := fun j => frozen_of_row w2 w.heap.size j _ _ hG2
  simp at q0 q1 q2
  obtain ⟨w3, hw3⟩ : ∃ z, z = ((w2.setCell ⟨w.heap.size, 0, none⟩ (.int .i64 r)).setCell ⟨w.heap.size, 1, none⟩ (.int .i64 s)).setCell ⟨w.heap.size, 2, none⟩ (.slice b m cap2) := ⟨_, rfl⟩
  have hs3 : w3.heap.size = w2.heap.size := by rw [hw3]; exact size_set3
  have hG3 : w3.heap[w.heap.size]? = some (.cells #[.int .i64 r, .int .i64 s, .slice b m cap2] 30 (0, 0)) := by rw [hw3]; exact set3 hG2 _ _ _
  have hR3 : w3.heap[w.heap.size + 1]? = some (.cells #[.int .i64 0, .int .i64 0, .slice none 0 0] 30 (0, 0)) := by rw [hw3, heap_set3 (by omega)]; exact hR2
  have hb3 : Below w.heap.size w w3 := by rw [hw3]; exact below_set3 (hb1.trans (hb2.mono hb1.size)) (Nat.le_refl _)
  have hown3 : OwnsE w3 w1.heap.size (.slice b m cap2) es := by
    rw [hw3]
    exact OwnsS.other hown2 (fun k hk => by
      have := (hlt2 k hk).1
      rw [heap_set3 (by have := hs1.out; omega)])
  have hs23 : w1.heap.size ≤ w3.heap.size := by rw [hs3]; exact hb2.size
  have hrow3 : ReadE w3.heap.size w3 (.slice b m cap2) es := (OwnsS.row hown3 (by have := hm.out; omega)).read
  have p0 := cell_of_heap hG3 0
  have p1 := cell_of_heap hG3 1
  have p2 := cell_of_heap hG3 2
  simp at p0 p1 p2
  have htk := takes_any w3 r s u v b m cap2 es (.slice aw n cw) wd hrow3 hm.out hl ((hw9.out.below hb3).mono hb3.size) (by have := hn.out; omega)
  rw [← hB.out] at htk
  replace hG2 := hidI hG2
  replace hR2 := hidI hR2
  replace hG3 := hidI hG3
  replace hR3 := hidI hR3
  replace hb3 := hidI hb3
  replace hown2 := hidI hown2
  replace hown3 := hidI hown3
  replace hrow3 := hidI hrow3
  replace hlt2 := hidI hlt2
  replace hs3 := hidI hs3
  go_upto_region 2 with fail
  rw [← hw3]
  replace hw3 := hidI hw3
  clear q0 q1 q2 f1 g0 g1 g2
  go_wp2_with fail
  refine htk.mono ?_
  rintro e w4 ⟨rfl, hb4⟩
  clear htk
  have hs4 := hb4.size
  have hG4 : w4.heap[w.heap.size]? = some (.cells #[.int .i64 r, .int .i64 s, .slice b m cap2] 30 (0, 0)) := by rw [hb4.block _ (by have := hs1.out; omega)]; exact hG3.out
  have hR4 : w4.heap[w.heap.size + 1]? = some (.cells #[.int .i64 0, .int .i64 0, .slice none 0 0] 30 (0, 0)) := by rw [hb4.block _ (by have := hs1.out; omega)]; exact hR3.out
  have hown4 : OwnsE w4 w1.heap.size (.slice b m cap2) es := OwnsS.later hown3.out hb4 (Nat.le_refl _)
  have hbw4 : Below w.heap.size w w4 := hb3.out.trans (hb4.mono hb3.out.size)
  have hlt4 : ∀ k, (Value.slice b m cap2).ownBlock = some k → w1.heap.size ≤ k ∧ k < w4.heap.size := World.ownsRow.lt hown4
  replace p0 := below_cell p0 hb4 (by have := hs1.out; omega)
  replace p1 := below_cell p1 hb4 (by have := hs1.out; omega)
  replace p2 := below_cell p2 hb4 (by have := hs1.out; omega)
  have hbase : w1.heap.size = w.heap.size + 1 + 1 := hs1.out
  clear hb4
  cases B with
  | false =>
    obtain ⟨hPS9, hPE9⟩ := hfalse.out rfl
    subst hPS9 hPE9
    have y0 := cell_of_heap hR4 0
    have y1 := cell_of_heap hR4 1
    have y2 := cell_of_heap hR4 2
    have f2 := fun j => frozen_of_row w4 (w.heap.size + 1) j _ _ hR4
    simp at y0 y1 y2
    have hfin := path_fin (w := w) (w4 := w4) (w9 := w4) (G := w.heap.size) (R := w.heap.size + 1) (base := w1.heap.size) (cap := cap2) (r := r) (s' := PS) (E := PE) (b := false) rfl rfl hbase hbw4 (KeptBut.refl _ _ _) b (by have := hown4; rw [hm.out] at this; exact this) (by omega) (by omega) (fun k hk => (hlt4 k (by have := hm.out; rw [this]; exact hk)).1)
    rw [← hm.out] at hfin
    replace hfin := hidI hfin
    replace hR4 := hidI hR4
    replace hG4 := hidI hG4
    replace hown4 := hidI hown4
    replace hlt4 := hidI hlt4
    replace hbase := hidI hbase
    go_wp2
    (try simp only [Exit.inBlock, Exit.then])
    refine ret_cell2 (x := .bool false) rfl rfl rfl (set3 hR4.out _ _ _) Try.underlying30 sizeGraph ?_
    exact hfin.out
  | true =>
    obtain ⟨hPS9, hPE9⟩ := htrue.out rfl
    obtain ⟨hgr, hu, hv, hiw, hne, hsz, hel, hn24, hr1, hr3, hs1_, hs40⟩ := tkP_yes (hB.out).symm
    have hasc := asc_of_gr hgr
    rw [← hn.out] at hne hsz hel hn24 hPS9
    obtain ⟨k1, hk1⟩ : ∃ k1, n = k1 + 1 := ⟨n - 1, by omega⟩
    obtain ⟨bw, ow, rfl, hbw, _⟩ := hw9.out.at2 0 (by have := hn.out; omega)
    have hwc : ∀ j, j < n → ∀ W, Below w.heap.size w W → W.cell? ⟨bw, ow + j, none⟩ = some (.int .i64 (wd.getD j 0)) := fun j hj W hW => by
      obtain ⟨b', o', e, _, hc⟩ := hw9.out.at2 j (by have := hn.out; omega)
      cases e
      exact below_cell hc hW hbw
    have hlet : ∀ j, j < n → wd.getD j 0 ≠ 0 ∧ -3 ≤ wd.getD j 0 ∧ wd.getD j 0 ≤ 3 := fun j hj => isW_let hiw ⟨hr1, hr3⟩ (by have := hn.out; omega)
    have hcapw : n ≤ cw := by
      obtain ⟨_, a', c', e, ⟨_, h2⟩, _⟩ := hw9.out
      cases e
      have := hn.out
      omega
    subst hk1
    obtain ⟨w5, hw5⟩ : ∃ z, z = w4.alloc (.cells #[.int .i64 u] 3) := ⟨_, rfl⟩
    have hA5 : w5.heap[w4.heap.size]? = some (.cells #[.int .i64 u] 3 (0, 0)) := by rw [hw5]; exact heap_alloc_new _ _
    have hs5 : w5.heap.size = w4.heap.size + 1 := by rw [hw5]; simp
    have hb45 : Below w4.heap.size w4 w5 := by rw [hw5]; exact (Below.refl _ _).alloc (Nat.le_refl _) _
    have hst5 : PathSt w5 w.heap.size w4.heap.size w1.heap.size r s u (.slice b m cap2) es :=
      ⟨by rw [hb45.block _ (by omega)]; exact hG4, hA5, OwnsS.later hown4 hb45 (Nat.le_refl _), fun e => by have := hlt4 _ e; omega, fun e => by have := hlt4 _ e; omega, ⟨by omega, by omega, by omega⟩⟩
    have hbw5 : Below w.heap.size w w5 := hbw4.trans (hb45.mono hbw4.size)
    have hR5 : w5.heap[w.heap.size + 1]? = some (.cells #[.int .i64 0, .int .i64 0, .slice none 0 0] 30 (0, 0)) := by rw [hb45.block _ (by omega)]; exact hR4
    have hst0 : Hid (∃ v', PathSt w5 w.heap.size w4.heap.size w1.heap.size r (s + (0 : Nat)) (atP s u 0) v' (es ++ pathK s u v wd 0)) := hidI ⟨_, by
      have e1 : s + ((0 : Nat) : Int) = s := by simp
      have e2 : atP s u 0 = u := rfl
      have e3 : es ++ pathK s u v wd 0 = es := by simp [pathK]
      rw [e1, e2, e3]
      exact hst5⟩
    have hk0 : Hid (KeptBut w1.heap.size w.heap.size w5 w5) := hidI (KeptBut.refl _ _ _)
    obtain ⟨A, hA⟩ : ∃ A, A = w4.heap.size := ⟨_, rfl⟩
    rw [← hA] at hst0
    have hA5s : A < w5.heap.size := by omega
    have hb1A : w1.heap.size ≤ A := by omega
    replace hst5 := hidI hst5
    replace hR5 := hidI hR5
    replace hA5 := hidI hA5
    replace hbw5 := hidI hbw5
    replace hR4 := hidI hR4
    replace hG4 := hidI hG4
    replace hown4 := hidI hown4
    replace hlt4 := hidI hlt4
    replace hb45 := hidI hb45
    replace hbw4 := hidI hbw4
    replace hbase := hidI hbase
    replace hs5 := hidI hs5
    replace hwc := hidI hwc
    replace hlet := hidI hlet
    replace hPS9 := hidI hPS9
    replace hPE9 := hidI hPE9
    replace hasc := hidI hasc
    replace hgr := hidI hgr
    replace hiw := hidI hiw
    replace hsz := hidI hsz
    replace hel := hidI hel
    replace hne := hidI hne
    go_upto_region 6 with fail
    rw [← hw5, ← hA]
    replace hw5 := hidI hw5
    replace hA := hidI hA
    clear p0 p1 p2
    go_wp2
    go_loopg [14, 33] k1 (fun gg x i wr => ∃ k : Nat, k + gg = k1 ∧ i = .int .i64 k ∧ Hid (∃ v', PathSt wr w.heap.size A w1.heap.size r (s + (k : Nat)) (atP s u k) v' (es ++ pathK s u v wd k)) ∧ Hid (KeptBut w1.heap.size w.heap.size w5 wr))
    case atStart => exact ⟨0, by omega, rfl, hst0, hk0⟩
    case round =>
      clear hst0 hk0
      obtain ⟨k, hk9, rfl, hst, hkb⟩ := hrel
      obtain ⟨v6, hP⟩ := hst.out
      have hbr : Below w.heap.size w wr := hbw5.out.trans (hkb.out.below (by have := hbase.out; omega))
      obtain ⟨z, hz⟩ : ∃ z, z = wd.getD k 0 := ⟨_, rfl⟩
      have cz := hwc.out k (by omega) wr hbr
      have hzb := hlet.out k (by omega)
      rw [← hz] at cz hzb
      obtain ⟨sk, hsk⟩ : ∃ x : Int, x = s + (k : Nat) := ⟨_, rfl⟩
      obtain ⟨y, hy⟩ : ∃ y, y = atP s u k := ⟨_, rfl⟩
      obtain ⟨L, hL⟩ : ∃ L, L = es ++ pathK s u v wd k := ⟨_, rfl⟩
      have hLl : L.length ≤ 1000 := by rw [hL, List.length_append, pathK_length]; have := hel.out; omega
      rw [← hsk, ← hy, ← hL] at hP
      have hskb : 1 ≤ sk ∧ sk ≤ 100 := by omega
      by_cases hlt : k < k1
      · have hki : (k : Int) < (k1 : Int) := by omega
        have hsz2 := hP.sized (sk + 1)
        have hbx := hP.box
        have c1 := cell_of_heap hbx 1
        simp at c1
        have ff := fun j => frozen_of_row wr w.heap.size j _ _ hbx
        obtain ⟨w6, hw6⟩ : ∃ x, x = wr.setCell ⟨w.heap.size, 1, none⟩ (.int .i64 (sk + 1)) := ⟨_, rfl⟩
        rw [← hw6] at hsz2
        have c6 := cell_of_heap hsz2.box 1
        simp at c6
        have hk6 : KeptBut w1.heap.size w.heap.size w5 w6 := by rw [hw6]; exact hkb.out.set
        have hcall := leadTo_any w6 w.heap.size A w1.heap.size r (sk + 1) y sk z v6 L hsz2 (by omega) (by omega) (by omega)
        have hned : L ++ [eB y z sk] = es ++ pathK s u v wd (k + 1) := by
          rw [pathK_succ, ← List.append_assoc, ← hL]
          congr 1
          unfold edP
          rw [← hy, ← hz, nxP_mid (by have := hn.out; omega), ← hsk]
        have hnx : ∀ {w' : World} {v' : Value}, PathSt w' w.heap.size A w1.heap.size r (sk + 1) sk v' (L ++ [eB y z sk]) → PathSt w' w.heap.size A w1.heap.size r (s + ((k + 1 : Nat) : Int)) (atP s u (k + 1)) v' (es ++ pathK s u v wd (k + 1)) := fun h => by
          have e1 : s + ((k + 1 : Nat) : Int) = sk + 1 := by rw [hsk]; push_cast; omega
          have e2 : atP s u (k + 1) = sk := by rw [atP_succ, hsk]
          rw [e1, e2, ← hned]; exact h
        replace hnx : Hid (∀ {w' : World} {v' : Value}, PathSt w' w.heap.size A w1.heap.size r (sk + 1) sk v' (L ++ [eB y z sk]) → PathSt w' w.heap.size A w1.heap.size r (s + ((k + 1 : Nat) : Int)) (atP s u (k + 1)) v' (es ++ pathK s u v wd (k + 1))) := hidI hnx
        replace hned := hidI hned
        replace hsz2 := hidI hsz2
        replace hbx := hidI hbx
        replace hP := hidI hP
        replace hk6 := hidI hk6
        replace hbr := hidI hbr
        replace hz := hidI hz
        replace hy := hidI hy
        replace hL := hidI hL
        replace hsk := hidI hsk
        replace hk9 := hidI hk9
        clear hst
        go_upto_region 11 with fail
        rw [← hw6]
        replace hw6 := hidI hw6
        clear c1 ff cz
        go_wp2_with fail
        refine hcall.mono ?_
        rintro e w7 ⟨rfl, ⟨v7, hP7⟩, hk7⟩
        have hst7 : Hid (∃ v', PathSt w7 w.heap.size A w1.heap.size r (s + ((k + 1 : Nat) : Int)) (atP s u (k + 1)) v' (es ++ pathK s u v wd (k + 1))) := hidI ⟨v7, hnx.out hP7⟩
        have hkb7 := hidI (hk6.out.trans hk7)
        clear hcall hP7 hk7 hnx
        go_wp2
        go_roundg (k1 - (k + 1))
        case rel => exact ⟨k + 1, by have := hk9.out; omega, by go_num, hst7, hkb7⟩
        case measure => have := hk9.out; omega
      · obtain rfl : k = k1 := by omega
        have hki : ¬ (k : Int) < (k : Int) := by omega
        have hcall := leadTo_any wr w.heap.size A w1.heap.size r sk y v z v6 L hP (by omega) (by omega) (by omega)
        obtain ⟨E0, hE0⟩ : ∃ E, E = es ++ pathK s u v wd (k + 1) := ⟨_, rfl⟩
        have hned : L ++ [eB y z v] = E0 := by
          rw [hE0, pathK_succ, ← List.append_assoc, ← hL]
          congr 1
          unfold edP
          rw [← hy, ← hz, nxP_last (by have := hn.out; omega)]
        rw [hned] at hcall
        have hE0l : E0.length ≤ 1000 := by rw [hE0, List.length_append, pathK_length]; have := hel.out; omega
        have hE0n : E0 ≠ [] := by rw [← hned]; simp
        have hPSk : PS = sk := by rw [hPS9.out, hsk]; push_cast; omega
        have hput : ∀ ds : List Ed, ds.Perm E0 → ds.Pairwise (fun a b => ¬ cmpE b a < 0) → dd ds ds.length = PE := fun ds h1 h2 => by
          rw [hPE9.out, ← hn.out]
          exact sort_put hasc.out (by rw [← hE0]; exact h1) h2
        replace hput := hidI hput
        replace hE0 := hidI hE0
        replace hned := hidI hned
        replace hP := hidI hP
        replace hbr := hidI hbr
        replace hz := hidI hz
        replace hy := hidI hy
        replace hL := hidI hL
        replace hsk := hidI hsk
        replace hk9 := hidI hk9
        replace hPSk := hidI hPSk
        clear hst
        go_wp2_with fail
        refine hcall.mono ?_
        rintro e w7 ⟨rfl, ⟨v7, hP7⟩, hk7⟩
        clear hcall cz
        have hk57 := hkb.out.trans hk7
        obtain ⟨g, cap7, rfl, hgb, hgs⟩ := own_some hP7.row hE0n
        have hsort := sortE_any w7 w1.heap.size g cap7 E0 hP7.row (by omega)
        obtain ⟨N, hN⟩ : ∃ N, N = E0.length := ⟨_, rfl⟩
        have hG7 := hP7.box
        have hGg : w.heap.size ≠ g := fun e => hP7.vG (by rw [e]; rfl)
        have hGA7 := hP7.GA
        rw [← hN] at hsort hG7 hE0l
        have c2 := cell_of_heap hG7 2
        simp at c2
        replace hP7 := hidI hP7
        replace hG7 := hidI hG7
        replace hN := hidI hN
        replace hE0n := hidI hE0n
        replace hk57 := hidI hk57
        replace hGg := hidI hGg
        clear hk7
        go_wp2_with fail
        refine hsort.mono ?_
        rintro e w8 ⟨rfl, hg8, ds, hperm, hsrt, hown8⟩
        clear hsort c2
        have hdl : ds.length = N := by rw [hN.out]; exact hperm.length_eq
        have hown8' : OwnsE w8 w1.heap.size (.slice (some ⟨g, 0, none⟩) ds.length cap7) ds := by rw [hdl]; rw [← hN.out] at hown8; exact hown8
        have hcomp := compactE_any w8 w1.heap.size g cap7 ds hown8' (by omega)
        have hE9 := hput.out ds hperm (hsrt.imp fun h => by omega)
        rw [hE9, hdl] at hcomp
        have hk58 := hk57.out.trans (KeptBut.of_grown (B := w1.heap.size) (G := w.heap.size) hg8 (by omega) hgb)
        have hG8 : w8.heap[w.heap.size]? = some (.cells #[.int .i64 r, .int .i64 sk, .slice (some ⟨g, 0, none⟩) N cap7] 30 (0, 0)) := by
          rw [hg8.block _ (by omega) (fun e => hGg.out (by cases e; rfl))]; exact hG7.out
        have hs8 := hg8.size
        have c2 := cell_of_heap hG8 2
        simp at c2
        replace hG8 := hidI hG8
        replace hg8 := hidI hg8
        replace hown8 := hidI hown8
        replace hown8' := hidI hown8'
        replace hperm := hidI hperm
        replace hsrt := hidI hsrt
        replace hk58 := hidI hk58
        replace hdl := hidI hdl
        replace hE9 := hidI hE9
        go_wp2_with fail
        refine hcomp.mono ?_
        rintro e w9 ⟨rfl, hg9, hown9⟩
        clear hcomp c2
        have hs9 := hg9.size
        have hk59 := (hk58.out.trans (KeptBut.of_grown (B := w1.heap.size) (G := w.heap.size) hg9 (by omega) hgb)).set (j := 2) (x := .slice (some ⟨g, 0, none⟩) PE.length cap7)
        have hG9 : w9.heap[w.heap.size]? = some (.cells #[.int .i64 r, .int .i64 sk, .slice (some ⟨g, 0, none⟩) N cap7] 30 (0, 0)) := by
          rw [hg9.block _ (by omega) (fun e => hGg.out (by cases e; rfl))]; exact hG8.out
        obtain ⟨w10, hw10⟩ : ∃ x, x = w9.setCell ⟨w.heap.size, 2, none⟩ (.slice (some ⟨g, 0, none⟩) PE.length cap7) := ⟨_, rfl⟩
        rw [← hw10] at hk59
        have hG10 : w10.heap[w.heap.size]? = some (.cells #[.int .i64 r, .int .i64 sk, .slice (some ⟨g, 0, none⟩) PE.length cap7] 30 (0, 0)) := by
          rw [hw10]
          have := heap_setCell_same w9 w.heap.size 2 _ _ (.slice (some ⟨g, 0, none⟩) PE.length cap7) hG9
          simpa using this
        have hR10 : w10.heap[w.heap.size + 1]? = some (.cells #[.int .i64 0, .int .i64 0, .slice none 0 0] 30 (0, 0)) := by
          rw [hk59.2.2.2.2 _ (by have := hbase.out; omega) (by omega)]; exact hR5.out
        have hown10 : OwnsE w10 w1.heap.size (.slice (some ⟨g, 0, none⟩) PE.length cap7) PE := by
          rw [hw10]
          exact OwnsS.other hown9 (fun k hk => by
            cases hk
            exact Below.heap_setCell _ _ _ _ (fun e => hGg.out e.symm))
        have hs10 : w10.heap.size = w9.heap.size := by rw [hw10]; simp [World.setCell]
        have hPEl : PE.length ≤ 1000000000 := by rw [hPE.out]; have := pthE_length r s es u wd v; have := hn.out; omega
        have hfin := path_fin (w := w) (w4 := w5) (w9 := w10) (G := w.heap.size) (R := w.heap.size + 1) (base := w1.heap.size) (cap := cap7) (r := r) (s' := sk) (E := PE) (b := true) rfl rfl hbase.out hbw5.out hk59 (some ⟨g, 0, none⟩) hown10 hPEl (by omega) (fun k hk => by cases hk; exact hgb)
        have f9 := fun j => frozen_of_row w9 w.heap.size j _ _ hG9
        have c9 := cell_of_heap hG9 2
        have d0 := cell_of_heap hG10 0
        have d1 := cell_of_heap hG10 1
        have d2 := cell_of_heap hG10 2
        have y0 := cell_of_heap hR10 0
        have y1 := cell_of_heap hR10 1
        have y2 := cell_of_heap hR10 2
        have f10 := fun j => frozen_of_row w10 (w.heap.size + 1) j _ _ hR10
        simp at c9 d0 d1 d2 y0 y1 y2
        have hPS8 := hPSk.out
        replace hfin := hidI hfin
        replace hG9 := hidI hG9
        replace hG10 := hidI hG10
        replace hR10 := hidI hR10
        replace hown9 := hidI hown9
        replace hown10 := hidI hown10
        replace hk59 := hidI hk59
        replace hg9 := hidI hg9
        replace hs10 := hidI hs10
        replace hPS8 := hidI hPS8
        go_upto_region 16 with fail
        rw [← hw10]
        replace hw10 := hidI hw10
        clear f9 c9
        go_wp2
        (try simp only [Exit.inBlock, Exit.then])
        refine ret_cell2 (x := .bool true) rfl rfl rfl (set3 hR10.out _ _ _) Try.underlying30 sizeGraph ?_
        rw [hPS8.out]
        exact hfin.out
end Go.Proofs.Ytmafaglgegimfaa
