import Derived.Deep.LoopGhost
import Derived.Deep.Cut
import Derived.Test.YtpjlamnjiilgbaaGreatJ18Is
import Derived.Test.YtpjlamnjiilgbaaGreatJ24Is
import Derived.Test.YtpjlamnjiilgbaaGreatJ12Is
import Derived.Test.YtpjlamnjiilgbaaGreatJ11Is
import Derived.Test.YtpjlamnjiilgbaaGreatJ5Is
namespace Go.Proofs.YtpjlamnjiilgbaaGreat
open Go.RowKit
set_option linter.unusedVariables false
set_option linter.unusedSimpArgs false
theorem OwnsS.apart {T : TypeId} {sz n base base2 : Nat} {D : MgD} {w w' : World} {v : Value} {zs : List Int} (h : OwnsS T sz w base v n zs) (ho : MgOk D base2 base) (hoff : MgOff D w w') : OwnsS T sz w' base v n zs := by
 have hlt := World.ownsRow.lt h
 refine h.other fun b hb => ?_
 obtain ⟨h1, h2⟩ := hlt b hb
 exact hoff.block b h2 (by have := ho.mb.2; omega) (by have := ho.gl.2.1; omega) (fun i hi => by have := (ho.p i hi).2.1; omega)
set_option maxRecDepth 100000 in
set_option maxHeartbeats 6400000 in
theorem progInOrder (w : World) (r s : Int) (v vc : Value) (es : List Ed) (cs : List Int) (h : ReadE w.heap.size w v es) (hl : es.length ≤ 10000000) (hc : ReadI w.heap.size w vc cs) (hcl : cs.length ≤ 100000000) :
 Calls Tryz.prog 171 #[.agg #[.int .i64 r, .int .i64 s, v], vc] w (LwGraphFolds w r (foS r s es cs) (foE r s es cs) (foL r s es cs)) := by
 obtain ⟨a, cap, rfl, hnc⟩ := h.form
 obtain ⟨n, hn⟩ := exq es.length
 rw [← hn] at h
 rw [← hn] at hl hnc ⊢
 obtain ⟨wa, hwa⟩ := exq (w.alloc (.cells #[.int .i64 r, .int .i64 s, .slice a n cap] 26))
 obtain ⟨w1, hw1⟩ := exq (wa.alloc (.cells #[.int .i64 0, .int .i64 0, .slice none 0 0] 26))
 have hww : (w.alloc (.cells #[.int .i64 r, .int .i64 s, .slice a n cap] 26)).alloc (.cells #[.int .i64 0, .int .i64 0, .slice none 0 0] 26) = w1 := by rw [hw1, hwa]
 have hb1 : Below w.heap.size w w1 := by rw [← hww]; exact ((Below.refl _ _).alloc (Nat.le_refl _) _).alloc (by simp) _
 have hs1 : w1.heap.size = w.heap.size + 1 + 1 := by rw [← hww]; simp
 have hg := heap_box w (.cells #[.int .i64 r, .int .i64 s, .slice a n cap] 26) (.cells #[.int .i64 0, .int .i64 0, .slice none 0 0] 26)
 have hR := heap_alloc_new (w.alloc (.cells #[.int .i64 r, .int .i64 s, .slice a n cap] 26)) (.cells #[.int .i64 0, .int .i64 0, .slice none 0 0] 26)
 rw [hww] at hg hR
 rw [show (w.alloc (.cells #[.int .i64 r, .int .i64 s, .slice a n cap] 26)).heap.size = w.heap.size + 1 by simp] at hR
 have g0 : w1.cell? ⟨w.heap.size, 0, none⟩ = some (.int .i64 r) := by simpa using cell_of_heap hg 0
 have g1 : w1.cell? ⟨w.heap.size, 1, none⟩ = some (.int .i64 s) := by simpa using cell_of_heap hg 1
 have g2 : w1.cell? ⟨w.heap.size, 2, none⟩ = some (.slice a n cap) := by simpa using cell_of_heap hg 2
 have his := progIsGr w1 r s (.slice a n cap) es ((h.below hb1).mono hb1.size) (by omega)
 obtain ⟨B, hB⟩ := exq (isGr r s es)
 rw [← hB] at his
 obtain ⟨ZS, hZS⟩ := exq (foS r s es cs)
 obtain ⟨ZE, hZE⟩ := exq (foE r s es cs)
 obtain ⟨ZL, hZL⟩ := exq (foL r s es cs)
 rw [← hZS, ← hZE, ← hZL]
 have hno : B = false → ZS = s ∧ ZE = es ∧ ZL = [] := fun hf => by rw [hZS, hZE, hZL]; unfold foS foE foL; rw [← hB, hf]; exact ⟨rfl, rfl, rfl⟩
 have hRk : ∀ W, Below w1.heap.size w1 W → W.heap[w.heap.size + 1]? = some (.cells #[.int .i64 0, .int .i64 0, .slice none 0 0] 26 (0, 0)) := fun W hW => by rw [hW.block _ (by omega)]; exact hR
 have hend : ∀ (W : World) (x0 x1 x2 : Value), Below w.heap.size w W → Below w.heap.size w (((W.setCell ⟨w.heap.size + 1, 0, none⟩ x0).setCell ⟨w.heap.size + 1, 1, none⟩ x1).setCell ⟨w.heap.size + 1, 2, none⟩ x2) := fun W x0 x1 x2 hW => below_set3 hW (by omega)
 have hcopy := fun (W : World) (hr : ReadE W.heap.size W (.slice a es.length cap) es) => gpCopy W r s _ es hr (by omega)
 rw [← hn] at hcopy
 have hc0 := hidI hc
 obtain ⟨_, ac, cc0, rfl, _, _⟩ := hc
 obtain ⟨nc, hnc2⟩ := exq cs.length
 rw [← hnc2] at hcl hc0 ⊢
 replace hcopy := hidI hcopy
 replace hno := hidI hno
 replace hRk := hidI hRk
 replace hend := hidI hend
 replace hww := hidI hww
 replace hn := hidI hn
 replace h := hidI h
 replace hg := hidI hg
 replace hR := hidI hR
 replace hs1 := hidI hs1
 replace hZS := hidI hZS
 replace hZE := hidI hZE
 replace hZL := hidI hZL
 replace hwa := hidI hwa
 replace hw1 := hidI hw1
 replace hnc2 := hidI hnc2
 go_enter Tryz.func171, Tryz.ntmps171
 go_upto_region 1 with fail
 rw [hww.out]
 go_wp2_with fail
 refine his.mono ?_
 rintro e w2 ⟨rfl, hb2⟩
 clear his
 have hlt1 : w.heap.size + 1 < w1.heap.size := by have := hs1.out; omega
 replace g0 := below_cell g0 hb2 (by omega)
 replace g1 := below_cell g1 hb2 (by omega)
 replace g2 := below_cell g2 hb2 (by omega)
 have hb12 := hidI (hb1.trans (hb2.mono hb1.size))
 have hb12' := hidI hb2
 have hb2l : w1.heap.size ≤ w2.heap.size := hb2.size
 replace hB := hidI hB
 clear hb2
 cases B with
 | false =>
  obtain ⟨hZS0, hZE0, hZL0⟩ := hno.out rfl
  have hcc := hcopy.out w2 ((h.out.below hb12.out).mono hb12.out.size)
  replace hZS0 := hidI hZS0
  replace hZE0 := hidI hZE0
  replace hZL0 := hidI hZL0
  replace hB := hidI hB.out
  go_wp2_with fail
  refine hcc.mono ?_
  rintro e w5 ⟨ca, cc, rfl, hrow, hb5⟩
  rw [← hn.out]
  rw [← hn.out] at hrow
  clear hcc
  have hb15 : Below w.heap.size w w5 := hb12.out.trans (hb5.mono hb12.out.size)
  have hR5 := hRk.out w5 (hb12'.out.trans (hb5.mono hb12'.out.size))
  have hs25 := hb5.size
  obtain ⟨y0, y1, y2⟩ := cell3 hR5
  have f2 := fun j => frozen_of_row w5 (w.heap.size + 1) j _ _ hR5
  simp at y0 y1 y2
  have hfin : LwGraphFolds w r s es [] (.returned (.tuple #[.agg #[.int .i64 r, .int .i64 s, .slice ca n cc], .slice none 0 0])) (((w5.setCell ⟨w.heap.size + 1, 0, none⟩ (.int .i64 r)).setCell ⟨w.heap.size + 1, 1, none⟩ (.int .i64 s)).setCell ⟨w.heap.size + 1, 2, none⟩ (.slice ca n cc)) := by
   have hrw := hrow
   rw [hn.out] at hrw
   rw [hn.out]
   have hb25 := hb12.out.size
   exact ⟨ca, cc, .slice none 0 0, w2.heap.size, w5.heap.size, w.heap.size, w.heap.size, rfl, ⟨by omega, by omega, by rw [size_set3]; exact Nat.le_refl _, Nat.le_refl _, Nat.le_refl _, by rw [size_set3]; omega, by omega⟩,
    RowS.set3_ hrw (.inl (by omega)), ⟨rfl, Nat.zero_le _, .inl ⟨rfl, rfl⟩⟩, hend.out _ _ _ _ hb15⟩
  have hset := set3 hR5 (.int .i64 r) (.int .i64 s) (.slice ca n cc)
  replace hfin := hidI hfin
  replace hset := hidI hset
  replace hR5 := hidI hR5
  replace hrow := hidI hrow
  replace hb5 := hidI hb5
  replace hb15 := hidI hb15
  clear g0 g1 g2
  go_wp2
  (try simp only [Exit.inBlock, Exit.then])
  refine ret_cell2 (x := .slice none 0 0) rfl rfl rfl hset.out Tryz.underlying26 sizeGraph ?_
  rw [hZS0.out, hZE0.out, hZL0.out]
  exact hfin.out
 | true =>
 have hgr := hidI hB.out.symm
 replace hB := hidI hB.out
 have hlim := isGr_iff.1 hgr.out
 have hsl : 1 ≤ s ∧ s ≤ 40 ∧ es.length ≤ 120 := ⟨hlim.2.2.2.1, hlim.2.2.2.2.1, hlim.2.2.2.2.2⟩
 have hrd2 : ReadE w2.heap.size w2 (.slice a n cap) es := (h.out.below hb12.out).mono hb12.out.size
 have hmk := merging_any w2 r s (.slice a n cap) es hrd2 ⟨hsl.1, hsl.2.1⟩ (by omega)
 have hid : resE (fun i : Nat => (i : Int)) es = es := resE_id (asc_of_gr hgr.out) (fun e he => ⟨(gr_edge hgr.out he).1.1, (gr_edge hgr.out he).2.1.1⟩)
 have hstop := fun i h1 h2 => fo_stop (cs := cs) hgr.out (i := i) h1 h2
 simp only [← hZS.out, ← hZE.out, ← hZL.out] at hstop
 replace hstop := hidI hstop
 replace hlim := hidI hlim
 replace hrd2 := hidI hrd2
 replace hid := hidI hid
 go_wp2_with fail
 refine hmk.mono ?_
 rintro e w3 ⟨D, rfl, hok, hDS, hst3, hb3⟩
 clear hmk
 have hs23 := hb3.size
 have hst0 : Hid (∃ nm, MgSt w3 D r s (.slice a n cap) nm D.S ∧ resE nm es = (orN r s es cs 0).es) := hidI ⟨_, hst3, hid.out⟩
 have hown0 : Hid (OwnsF w3 w3.heap.size (.slice none 0 0) (orN r s es cs 0).l) := hidI (OwnsS.nil (T := 167) (sz := 2) w3 w3.heap.size)
 have hbb0 : Hid (Below w2.heap.size w2 w3) := hidI hb3
 have hall0 : Hid (∀ j, j < 0 → (foldsF (orN r s es cs j).es).length ≠ 0) := hidI (fun j hj => by omega)
 obtain ⟨S, hS⟩ := exq D.S
 rw [← hS] at hst0
 have hSs : Hid ((S : Int) = s) := hidI (by rw [hS]; exact hDS)
 have hsz0 : Hid (w3.heap.size ≤ w3.heap.size) := hidI (Nat.le_refl _)
 replace hok := hidI hok
 replace hDS := hidI hDS
 replace hst3 := hidI hst3
 replace hS := hidI hS
 clear hb3 g0 g1 g2
 go_wp2
 go_loopg [7] S (fun g o wr => ∃ i : Nat, g + i = S ∧ Hid (∀ j, j < i → (foldsF (orN r s es cs j).es).length ≠ 0) ∧ Hid (∃ nm, MgSt wr D r s (.slice a n cap) nm g ∧ resE nm es = (orN r s es cs i).es) ∧ Hid (OwnsF wr w3.heap.size o (orN r s es cs i).l) ∧ Hid (Below w2.heap.size w2 wr) ∧ Hid (w3.heap.size ≤ wr.heap.size))
 case atStart => exact ⟨0, by omega, hall0, hst0, hown0, hbb0, hsz0⟩
 case round =>
  clear hst0 hown0 hbb0 hall0 hsz0
  obtain ⟨i, hi, hall, hst, hown, hbb, hsz⟩ := hrel
  obtain ⟨nm, hstr, hres⟩ := hst.out
  obtain ⟨a3, m3, c3, rfl⟩ := hown.out.form3
  obtain ⟨g, rfl⟩ := exq gk
  have hgi := or_gr (cs := cs) hgr.out i
  obtain ⟨hli, hsi⟩ := or_count hgr.out i hall.out
  have hi40 := or_end hgr.out hall.out
  obtain ⟨T, hT⟩ := exq (orN r s es cs i)
  have hgs : (g : Int) = T.s := by rw [hT, hsi]; have := hSs.out; omega
  rw [← hT] at hres hgi hli hsi hown
  rw [← hgs] at hgi
  have hszr := hsz.out
  have hrs := result_any wr D w2.heap.size r s (.slice a n cap) es nm g hstr (hok.out.mono hszr) (hrd2.out.below hbb.out) (by omega) hDS.out hgr.out
  rw [hres] at hrs
  obtain ⟨E, hE⟩ := exq T.es
  obtain ⟨L, hL⟩ := exq T.l
  rw [← hE] at hrs hgi hres
  rw [← hL] at hown hli
  have hEl : E.length ≤ 120 := (isGr_iff.1 hgi).2.2.2.2.2
  have hst_ := hstop.out i hall.out
  rw [← hT, ← hE, ← hL, ← hgs] at hst_
  have hstep : (foldsF E).length ≠ 0 → orN r s es cs (i + 1) = ⟨mrS r g E ((foldsF E).getD (chN cs i (foldsF E).length) zeroF), mrE r g E ((foldsF E).getD (chN cs i (foldsF E).length) zeroF), L ++ [(foldsF E).getD (chN cs i (foldsF E).length) zeroF]⟩ := fun h0 => by
   have := or_step (r := r) (s := s) (es := es) (cs := cs) (i := i) (by rw [← hT, ← hE]; exact h0)
   rw [← hT, ← hE, ← hL, ← hgs] at this
   exact this
  have hall2 : (foldsF E).length ≠ 0 → ∀ j, j < i + 1 → (foldsF (orN r s es cs j).es).length ≠ 0 := fun h0 j hj => by
   by_cases hji : j = i
   · subst hji; rw [← hT, ← hE]; exact h0
   · exact hall.out j (by omega)
  replace hstep := hidI hstep
  replace hall2 := hidI hall2
  replace hst_ := hidI hst_
  replace hgi := hidI hgi
  replace hli := hidI hli
  replace hsi := hidI hsi
  replace hgs := hidI hgs
  replace hE := hidI hE
  replace hL := hidI hL
  replace hT := hidI hT
  replace hres := hidI hres
  replace hstr := hidI hstr
  replace hi := hidI hi
  clear hst
  go_wp2_with fail
  refine hrs.mono ?_
  rintro e w5 ⟨ra, rc, rfl, hrow5, hst5, hoff5⟩
  clear hrs
  have hs5 := hoff5.size
  have hb5 : Below w2.heap.size wr w5 := hoff5.below (hok.out.mono hszr) (by omega)
  have hown5 := hown.out.apart hok.out hoff5
  obtain ⟨m, hm⟩ := exq E.length
  rw [← hm]
  obtain ⟨w6, hw6⟩ := exq (w5.alloc (.cells #[.int .i64 r, .int .i64 (g : Int), .slice ra m rc] 26))
  have hb6 : Below w5.heap.size w5 w6 := by rw [hw6]; exact (Below.refl _ _).alloc (Nat.le_refl _) _
  have hs6 : w6.heap.size = w5.heap.size + 1 := by rw [hw6]; simp
  have hbx := box3 hw6
  obtain ⟨X, hX⟩ := exq w5.heap.size
  rw [← hX] at hbx
  obtain ⟨x0, x1, x2⟩ := hbx
  have hrd6 : ReadE w6.heap.size w6 (.slice ra E.length rc) E := (hrow5.below hb6 (Nat.le_refl _)).read.mono (by omega)
  have hpf := progFolds w6 r g _ E hrd6 (by omega)
  have hpfe : pfL r g E = foldsF E := by unfold pfL; rw [if_pos hgi.out]
  obtain ⟨FF, hFF⟩ := exq (foldsF E)
  rw [hpfe, ← hFF, ← hm] at hpf
  rw [← hFF] at hst_ hstep hall2
  have hFl : FF.length ≤ 28800 := by have := pf_len r g E; rw [hpfe, ← hFF] at this; exact this
  have hmem : ∀ q, q < FF.length → okM r g E (FF.getD q zeroF) = true := fun q hq => by
   rw [hFF] at hq ⊢
   exact folds_ok hgi.out (getF_mem hq)
  replace hmem := hidI hmem
  replace hFF := hidI hFF
  replace hpfe := hidI hpfe
  replace hrd6 := hidI hrd6
  replace hs6 := hidI hs6
  replace hrow5 := hidI hrow5
  replace hst5 := hidI hst5
  replace hoff5 := hidI hoff5
  replace hown5 := hidI hown5
  replace hb5 := hidI hb5
  replace hm := hidI hm
  go_upto_region 6 with fail
  rw [← hw6]
  replace hw6 := hidI hw6
  rw [← hX]
  have hXe := hidI hX
  have hXs5 : X = w5.heap.size := hX
  replace hXs5 : w5.heap.size ≤ X ∧ X ≤ w5.heap.size := by omega
  clear hX
  go_wp2_with fail
  refine hpf.mono ?_
  rintro e w7 ⟨aL, cL, rfl, hrow7, hb7⟩
  clear hpf
  have hs7 := hb7.size
  have hX6 : X < w6.heap.size := by have := hs6.out; omega
  replace x0 := below_cell x0 hb7 hX6
  replace x1 := below_cell x1 hb7 hX6
  replace x2 := below_cell x2 hb7 hX6
  have hb57 : Below w5.heap.size w5 w7 := hb6.trans (hb7.mono (by have := hs6.out; omega))
  have hs57 := hb57.size
  have hst7 := hst5.out.below (hok.out.mono (show w3.heap.size ≤ w5.heap.size by omega)) hb57
  have hown7 := hown5.out.later hb57 (Nat.le_refl _)
  have hbb7 : Below w2.heap.size w2 w7 := hbb.out.trans (hb5.out.trans (hb57.mono (by omega)))
  obtain ⟨nF, hnF⟩ := exq FF.length
  by_cases h0 : FF.length = 0
  · have hFz : FF = [] := List.eq_nil_of_length_eq_zero h0
    obtain ⟨hZ1, hZ2, hZ3⟩ := hst_.out h0
    have t0 : ((FF.length : Int) == 0) = true := by rw [beq_iff_eq]; omega
    have hbr7 : Below w1.heap.size w1 w7 := hb12'.out.trans (hbb7.mono hb2l)
    have hb07 : Below w.heap.size w w7 := hb12.out.trans (hbb7.mono hb12.out.size)
    have hR7 := hRk.out w7 hbr7
    obtain ⟨y0, y1, y2⟩ := cell3 hR7
    have f2 := fun j => frozen_of_row w7 (w.heap.size + 1) j _ _ hR7
    simp at y0 y1 y2
    have hrowg : RowS 72 3 w7 wr.heap.size w5.heap.size (.slice ra E.length rc) E.length (flatE E) := hrow5.out.below hb57 (Nat.le_refl _)
    have hrowf : RowS 167 2 w7 w3.heap.size wr.heap.size (.slice a3 m3 c3) L.length (flatF L) := by
     have h1 := OwnsS.row hown.out (by have := hli.out; omega)
     have hlt := World.ownsRow.lt hown.out
     have ho := hok.out
     refine h1.keep fun q q1 q2 => ?_
     rw [hb57.block q (by omega)]
     exact hoff5.out.block q q2 (by have := ho.mb.2; omega) (by have := ho.gl.2.1; omega) (fun x hx => by have := (ho.p x hx).2.1; omega)
    have hfin : LwGraphFolds w r (g : Int) E L (.returned (.tuple #[.agg #[.int .i64 r, .int .i64 (g : Int), .slice ra m rc], .slice a3 m3 c3])) (((w7.setCell ⟨w.heap.size + 1, 0, none⟩ (.int .i64 r)).setCell ⟨w.heap.size + 1, 1, none⟩ (.int .i64 (g : Int))).setCell ⟨w.heap.size + 1, 2, none⟩ (.slice ra m rc)) := by
     have hbw2 := hb12.out.size
     rw [hm.out]
     exact ⟨ra, rc, .slice a3 m3 c3, wr.heap.size, w5.heap.size, w3.heap.size, wr.heap.size, rfl, ⟨by omega, by omega, by rw [size_set3]; omega, by omega, by omega, by rw [size_set3]; omega, by omega⟩,
      RowS.set3_ hrowg (.inl (by omega)), RowS.set3_ hrowf (.inl (by omega)), hend.out _ _ _ _ hb07⟩
    have hset := set3 hR7 (.int .i64 r) (.int .i64 (g : Int)) (.slice ra m rc)
    replace hfin := hidI hfin
    replace hset := hidI hset
    replace hR7 := hidI hR7
    replace hrow7 := hidI hrow7
    replace hrowg := hidI hrowg
    replace hrowf := hidI hrowf
    replace hb7 := hidI hb7
    replace hb07 := hidI hb07
    replace hbr7 := hidI hbr7
    replace hbb7 := hidI hbb7
    replace hb57 := hidI hb57
    replace hst7 := hidI hst7
    replace hown7 := hidI hown7
    replace hFz := hidI hFz
    replace h0 := hidI h0
    replace hnF := hidI hnF
    replace hZ1 := hidI hZ1
    replace hZ2 := hidI hZ2
    replace hZ3 := hidI hZ3
    go_wp2
    (try simp only [Exit.inBlock, Exit.then])
    refine ret_cell2 (x := .slice a3 m3 c3) rfl rfl rfl hset.out Tryz.underlying26 sizeGraph ?_
    rw [hZ1.out, hZ2.out, hZ3.out]
    exact hfin.out
  · have t0 : ((FF.length : Int) == 0) = false := by rw [beq_eq_false_iff_ne]; omega
    have hstep2 := hstep.out h0
    have hall3 := hidI (hall2.out h0)
    have hrd7 : ReadF w7.heap.size w7 (.slice aL FF.length cL) FF := hrow7.read
    have hcq := chN_lt (cs := cs) (i := i) (n := FF.length) (Nat.pos_of_ne_zero h0)
    have hcz := chZ_chN cs i FF.length (Nat.pos_of_ne_zero h0)
    obtain ⟨q, hq⟩ := exq (chN cs i FF.length)
    obtain ⟨z, hz⟩ := exq (chZ cs i)
    rw [← hq] at hcq hcz hstep2
    rw [← hz] at hcz
    obtain ⟨b, off, haL, hbB, c0, c1⟩ := ReadF.cells hrd7 q hcq
    subst haL
    have hfo := hmem.out q hcq
    obtain ⟨⟨k, d⟩, hkd⟩ : ∃ f, f = FF.getD q zeroF := ⟨_, rfl⟩
    rw [← hkd] at c0 c1 hfo hstep2
    simp only at c0 c1
    obtain ⟨_, k1, k2, k3⟩ := okM_iff.1 hfo
    simp only at k1 k2 k3
    obtain ⟨kN, hkN⟩ : ∃ x : Nat, (x : Int) = k := ⟨k.toNat, by omega⟩
    obtain ⟨dN, hdN⟩ : ∃ x : Nat, (x : Int) = d := ⟨d.toNat, by omega⟩
    rw [fold_s hfo, fold_e hfo] at hstep2
    simp only at hstep2
    have hch := choice_any w7 (.slice ac nc cc0) cs i (by rw [hnc2.out]; exact ((hnc2.out ▸ hc0.out).below (hb12.out.trans (hbb7.mono hb12.out.size))).mono (by have := hb12.out.size; omega)) (by have := hnc2.out; omega) (by omega)
    rw [← hz] at hch
    have hmi : m3 = i := by
     have h1 := (OwnsS.row hown.out (by have := hli.out; omega)).cap.1
     rw [h1]; exact hli.out
    subst hmi
    obtain ⟨w8, hw8⟩ := exq (w7.alloc (.cells #[.int .i64 k, .int .i64 d] 167))
    have hb8 : Below w7.heap.size w7 w8 := by rw [hw8]; exact (Below.refl _ _).alloc (Nat.le_refl _) _
    have hs8 : w8.heap.size = w7.heap.size + 1 := by rw [hw8]; simp
    have hk8 : w8.heap[w7.heap.size]? = some (.cells #[.int .i64 k, .int .i64 d] 167 (0, 0)) := by rw [hw8]; exact heap_alloc_new _ _
    obtain ⟨Y, hY⟩ := exq w7.heap.size
    rw [← hY] at hk8
    have y0 : w8.cell? ⟨Y, 0, none⟩ = some (.int .i64 k) := by simpa using cell_of_heap hk8 0
    have y1 : w8.cell? ⟨Y, 1, none⟩ = some (.int .i64 d) := by simpa using cell_of_heap hk8 1
    have hst8 := hst7.below (hok.out.mono (show w3.heap.size ≤ w7.heap.size by omega)) hb8
    have hmg := mergeV_any w8 D w2.heap.size r s (.slice a n cap) nm g kN dN hst8 (hok.out.mono (show w3.heap.size ≤ w8.heap.size by omega)) (by omega) (by omega)
    rw [hkN, hdN] at hmg
    have hrem := hcz.1
    have hz0 := hcz.2
    have hqi : (q : Int) < (FF.length : Int) := by omega
    have hqw : IntKind.i64.wrap (q : Int) = (q : Int) := IntWalk.i64_in _ (by omega)
    have hY8 : Y < w8.heap.size := by omega
    have hY3 : w3.heap.size ≤ Y := by omega
    have hown8 : OwnsF w8 w3.heap.size (.slice a3 m3 c3) L := hown7.later hb8 (Nat.le_refl _)
    have hbb8 : Below w2.heap.size w2 w8 := hbb7.trans (hb8.mono (by omega))
    have hs38 : w3.heap.size ≤ w8.heap.size := by omega
    have hYe := hidI hY
    clear hY hcz
    replace hs8 := hidI hs8
    replace hk8 := hidI hk8
    replace hb8 := hidI hb8
    replace hst8 := hidI hst8
    replace hst7 := hidI hst7
    replace hown7 := hidI hown7
    replace hown8 := hidI hown8
    replace hbb7 := hidI hbb7
    replace hbb8 := hidI hbb8
    replace hb57 := hidI hb57
    replace hb7 := hidI hb7
    replace hrd7 := hidI hrd7
    replace hrow7 := hidI hrow7
    replace hstep2 := hidI hstep2
    replace hfo := hidI hfo
    replace hkd := hidI hkd
    replace hkN := hidI hkN
    replace hdN := hidI hdN
    replace hq := hidI hq
    replace hz := hidI hz
    replace hcq := hidI hcq
    replace hnF := hidI hnF
    replace h0 := hidI h0
    clear x0 x1 x2
    go_wp2_with fail
    refine hch.mono ?_
    rintro e w7 ⟨rfl, rfl⟩
    clear hch
    go_upto_region 10 with fail
    rw [← hw8]
    replace hw8 := hidI hw8
    rw [← hYe.out]
    clear c0 c1
    go_wp2_with fail
    refine hmg.mono ?_
    rintro e w9 ⟨rfl, hst9, hoff9⟩
    clear hmg
    have hs9 := hoff9.size
    have ho := hok.out
    have hYb : w9.heap[Y]? = _ := (hoff9.block Y hY8 (by have := ho.mb.2; omega) (by have := ho.gl.2.1; omega) (fun x hx => by have := (ho.p x hx).2.1; omega)).trans hk8.out
    replace y0 : w9.cell? ⟨Y, 0, none⟩ = some (.int .i64 k) := by simpa using cell_of_heap hYb 0
    replace y1 : w9.cell? ⟨Y, 1, none⟩ = some (.int .i64 d) := by simpa using cell_of_heap hYb 1
    have hown9 : OwnsF w9 w3.heap.size (.slice a3 m3 c3) L := hown8.out.apart ho hoff9
    have hbb9 : Below w2.heap.size w2 w9 := hbb8.out.trans (hoff9.below (ho.mono hs38) (by omega))
    replace hst9 := hidI hst9
    replace hoff9 := hidI hoff9
    replace hYb := hidI hYb
    replace hown9 := hidI hown9
    replace hbb9 := hidI hbb9
    replace ho := hidI ho
    go_wp2_with (at_builtin; go_must (refine wpList_pushF rfl _ _ rfl w3.heap.size (.slice a3 m3 c3) L k d rfl rfl (by exact hown9.out) (by have := hli.out; omega) (by omega) ?_))
    intro v' wn hownn hbn
    have hg1 : 1 ≤ g := by omega
    have hstn : Hid (∃ nm, MgSt wn D r s (.slice a n cap) nm (g - 1) ∧ resE nm es = (orN r s es cs (m3 + 1)).es) := hidI ⟨_, hst9.out.below ho.out hbn, by
     rw [hkN.out, hdN.out, resE_next, hres.out, hstep2.out]⟩
    have hownn9 : Hid (OwnsF wn w3.heap.size v' (orN r s es cs (m3 + 1)).l) := hidI (by rw [hstep2.out]; exact hownn)
    have hbbn : Hid (Below w2.heap.size w2 wn) := hidI (hbb9.out.trans (hbn.mono (by omega)))
    have hszn : Hid (w3.heap.size ≤ wn.heap.size) := hidI (by have := hbn.size; omega)
    replace hownn := hidI hownn
    replace hbn := hidI hbn
    go_wp2
    go_roundg (g - 1)
    case rel => exact ⟨m3 + 1, by have := hi.out; omega, hall3, hstn, hownn9, hbbn, hszn⟩
    case measure => omega
end Go.Proofs.YtpjlamnjiilgbaaGreat
namespace Go.Proofs.YtpjlamnjiilgbaaGreat
open Go.RowKit
set_option linter.unusedVariables false
set_option linter.unusedSimpArgs false
set_option maxHeartbeats 1600000 in
theorem progAll (w : World) (r s : Int) (v : Value) (es : List Ed) (h : ReadE w.heap.size w v es) (hl : es.length ≤ 10000000) :
 Calls Tryz.prog 139 #[.agg #[.int .i64 r, .int .i64 s, v]] w (LwGraphFolds w r (faS r s es) (faE r s es) (faL r s es)) := by
 obtain ⟨a, cap, rfl, hnc⟩ := h.form
 obtain ⟨n, hn⟩ := exq es.length
 rw [← hn] at h
 rw [← hn] at hl hnc ⊢
 obtain ⟨w1, hw1⟩ := exq ((w.alloc (.cells #[.int .i64 r, .int .i64 s, .slice a n cap] 26)).alloc (.cells #[.int .i64 0, .int .i64 0, .slice none 0 0] 26))
 have hb1 : Below w.heap.size w w1 := by rw [hw1]; exact ((Below.refl _ _).alloc (Nat.le_refl _) _).alloc (by simp) _
 have hs1 : w1.heap.size = w.heap.size + 1 + 1 := by rw [hw1]; simp
 have hg := heap_box w (.cells #[.int .i64 r, .int .i64 s, .slice a n cap] 26) (.cells #[.int .i64 0, .int .i64 0, .slice none 0 0] 26)
 have hR := heap_alloc_new (w.alloc (.cells #[.int .i64 r, .int .i64 s, .slice a n cap] 26)) (.cells #[.int .i64 0, .int .i64 0, .slice none 0 0] 26)
 rw [← hw1] at hg hR
 rw [show (w.alloc (.cells #[.int .i64 r, .int .i64 s, .slice a n cap] 26)).heap.size = w.heap.size + 1 by simp] at hR
 have g0 : w1.cell? ⟨w.heap.size, 0, none⟩ = some (.int .i64 r) := by simpa using cell_of_heap hg 0
 have g1 : w1.cell? ⟨w.heap.size, 1, none⟩ = some (.int .i64 s) := by simpa using cell_of_heap hg 1
 have g2 : w1.cell? ⟨w.heap.size, 2, none⟩ = some (.slice a n cap) := by simpa using cell_of_heap hg 2
 have hcall := progInOrder w1 r s (.slice a n cap) (.slice none 0 0) es [] ((h.below hb1).mono hb1.size) (by omega) ⟨by simp, none, 0, rfl, ⟨fun _ => rfl, Nat.le_refl _⟩, .inl rfl⟩ (by simp)
 obtain ⟨e1, e2, e3⟩ := fa_fo r s es
 rw [← e1, ← e2, ← e3] at hcall
 obtain ⟨ZS, hZS⟩ := exq (faS r s es)
 obtain ⟨ZE, hZE⟩ := exq (faE r s es)
 obtain ⟨ZL, hZL⟩ := exq (faL r s es)
 rw [← hZS, ← hZE, ← hZL] at hcall
 rw [← hZS, ← hZE, ← hZL]
 replace hZS := hidI hZS
 replace hZE := hidI hZE
 replace hZL := hidI hZL
 replace e1 := hidI e1
 replace e2 := hidI e2
 replace e3 := hidI e3
 replace hn := hidI hn
 replace h := hidI h
 replace hg := hidI hg
 replace hR := hidI hR
 replace hs1 := hidI hs1
 go_enter Tryz.func139, Tryz.ntmps139
 go_upto_region 1 with fail
 rw [← hw1]
 replace hw1 := hidI hw1
 go_wp2_with fail
 refine hcall.mono ?_
 rintro e w2 ⟨ca, cc, vl, glo, ghi, flo, fhi, rfl, ⟨r1, r2, r3, r4, r5, r6, r7⟩, hrowg, hrowf, hb2⟩
 clear hcall g0 g1 g2
 have hR2 : w2.heap[w.heap.size + 1]? = some (.cells #[.int .i64 0, .int .i64 0, .slice none 0 0] 26 (0, 0)) := by rw [hb2.block _ (by have := hs1.out; omega)]; exact hR.out
 obtain ⟨y0, y1, y2⟩ := cell3 hR2
 have f2 := fun j => frozen_of_row w2 (w.heap.size + 1) j _ _ hR2
 simp at y0 y1 y2
 obtain ⟨m, hm⟩ := exq ZE.length
 have hfin : LwGraphFolds w r ZS ZE ZL (.returned (.tuple #[.agg #[.int .i64 r, .int .i64 ZS, .slice ca ZE.length cc], vl])) (((w2.setCell ⟨w.heap.size + 1, 0, none⟩ (.int .i64 r)).setCell ⟨w.heap.size + 1, 1, none⟩ (.int .i64 ZS)).setCell ⟨w.heap.size + 1, 2, none⟩ (.slice ca ZE.length cc)) := by
  have hs := hs1.out
  exact ⟨ca, cc, vl, glo, ghi, flo, fhi, rfl, ⟨by omega, by omega, by rw [size_set3]; omega, by omega, by omega, by rw [size_set3]; omega, by omega⟩,
   RowS.set3_ hrowg (.inl (by omega)), RowS.set3_ hrowf (.inl (by omega)), below_set3 (hb1.trans (hb2.mono hb1.size)) (by omega)⟩
 have hset := set3 hR2 (.int .i64 r) (.int .i64 ZS) (.slice ca ZE.length cc)
 rw [← hm] at hset hfin ⊢
 replace hm := hidI hm
 replace hfin := hidI hfin
 replace hset := hidI hset
 replace hR2 := hidI hR2
 replace hrowg := hidI hrowg
 replace hrowf := hidI hrowf
 go_wp2
 (try simp only [Exit.inBlock, Exit.then])
 refine ret_cell2 (x := vl) rfl rfl rfl hset.out Tryz.underlying26 sizeGraph ?_
 exact hfin.out
end Go.Proofs.YtpjlamnjiilgbaaGreat
