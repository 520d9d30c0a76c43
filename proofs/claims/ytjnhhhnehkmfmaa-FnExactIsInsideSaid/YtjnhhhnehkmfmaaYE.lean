/- Inclusions, the program: isInside, IsInside (tools/ye.py). -/
import Derived.Test.YtjnhhhnehkmfmaaYB
import Derived.Test.YtjnhhhnehkmfmaaZO
import Derived.Test.YtjnhhhnehkmfmaaLET
import Derived.Test.YtjnhhhnehkmfmaaRM
import Derived.Deep.LoopGhost
import Derived.Deep.Cut
namespace Go.Proofs.Ytjnhhhnehkmfmaa
open Go.RowKit Go.Maps
set_option linter.unusedVariables false
set_option linter.unusedSimpArgs false

/-- Behind the whole search: what its answer is. -/
theorem suIn_both {r s : Int} {ea : List Ed} {r' s' : Int} {eb : List Ed} (h1 : isCo r s ea = true) (h2 : isCo r' s' eb = true) : suIn r s ea r' s' eb = (decide (r = r') && morB (letsN r.toNat) ea eb) := by
  unfold suIn
  rw [h1, h2]
  simp
theorem take_get {L : List Int} {k : Nat} (h : k < L.length) : L.take (k + 1) = L.take k ++ [L.getD k 0] := by
  rw [List.take_add_one, List.getElem?_eq_getElem h, List.getD_eq_getElem?_getD, List.getElem?_eq_getElem h]
  rfl
set_option maxRecDepth 100000 in
set_option maxHeartbeats 6400000 in
theorem isIn_any (w : World) (r s r' s' : Int) (v v' : Value) (ea eb : List Ed) (mA mB : Nat) (hv : ∃ a n c, v = Value.slice a n c) (hv' : ∃ a n c, v' = Value.slice a n c) (hca : isCo r s ea = true) (hcb : isCo r' s' eb = true)
    (hmA : MapS w mA (2 * ea.length) (stD ea ea.length)) (hltA : mA < w.heap.size) (hmB : MapS w mB (2 * eb.length) (stD eb eb.length)) (hltB : mB < w.heap.size) :
    Calls Try.prog 48 #[.agg #[.int .i64 r, .int .i64 s, v, .map (some mA)], .agg #[.int .i64 r', .int .i64 s', v', .map (some mB)]] w (LwBool w (decide (r = r') && morB (letsN r.toNat) ea eb)) := by
  obtain ⟨a, n, cap, rfl⟩ := hv
  obtain ⟨a', n', cap', rfl⟩ := hv'
  have hla := co_lim hca
  have hlb := co_lim hcb
  have hga := fo_gr (co_parts hca).1
  have hgb := fo_gr (co_parts hcb).1
  have hpar := fun x => co_par (x := x) hca
  have hnl := nx_lt (co_parts hca).1
  obtain ⟨rN, rfl⟩ : ∃ rN : Nat, r = (rN : Int) := ⟨r.toNat, by omega⟩
  obtain ⟨sN, rfl⟩ : ∃ sN : Nat, s = (sN : Int) := ⟨s.toNat, by omega⟩
  rw [Int.toNat_natCast] at hpar hnl ⊢
  have hs40 : 1 ≤ sN ∧ sN ≤ 40 := by omega
  have hr3 : 1 ≤ rN ∧ rN ≤ 3 := by omega
  obtain ⟨L, hL⟩ : ∃ L, L = letsN rN := ⟨_, rfl⟩
  have hlets := fun W => progLets W rN (by omega)
  have hLl : L.length ≤ 6 := by rw [hL, letsN_length]; omega
  have hLin : ∀ l ∈ L, -3 ≤ l ∧ l ≤ 3 := fun l hl => by rw [hL] at hl; have := letsN_in rN l hl; omega
  rw [← hL] at hpar hlets ⊢
  obtain ⟨F, hF⟩ : ∃ F, F = (decide ((rN : Int) = r') && morB L ea eb) := ⟨_, rfl⟩
  rw [← hF]
  obtain ⟨w1, hw1⟩ : ∃ z, z = (w.alloc (.cells #[.int .i64 (rN : Int), .int .i64 (sN : Int), .slice a n cap, .map (some mA)] 57)).alloc (.cells #[.int .i64 r', .int .i64 s', .slice a' n' cap', .map (some mB)] 57) := ⟨_, rfl⟩
  have hb1 : Below w.heap.size w w1 := by rw [hw1]; exact ((Below.refl _ _).alloc (Nat.le_refl _) _).alloc (by simp) _
  have hs1 : w1.heap.size = w.heap.size + 1 + 1 := by rw [hw1]; simp
  have hg := heap_box w (.cells #[.int .i64 (rN : Int), .int .i64 (sN : Int), .slice a n cap, .map (some mA)] 57) (.cells #[.int .i64 r', .int .i64 s', .slice a' n' cap', .map (some mB)] 57)
  have hk := heap_alloc_new (w.alloc (.cells #[.int .i64 (rN : Int), .int .i64 (sN : Int), .slice a n cap, .map (some mA)] 57)) (.cells #[.int .i64 r', .int .i64 s', .slice a' n' cap', .map (some mB)] 57)
  rw [← hw1] at hg hk
  rw [show (w.alloc (.cells #[.int .i64 (rN : Int), .int .i64 (sN : Int), .slice a n cap, .map (some mA)] 57)).heap.size = w.heap.size + 1 by simp] at hk
  have g0 : w1.cell? ⟨w.heap.size, 0, none⟩ = some (.int .i64 (rN : Int)) := by simpa using cell_of_heap hg 0
  have g1 : w1.cell? ⟨w.heap.size, 1, none⟩ = some (.int .i64 (sN : Int)) := by simpa using cell_of_heap hg 1
  have g3 : w1.cell? ⟨w.heap.size, 3, none⟩ = some (.map (some mA)) := by simpa using cell_of_heap hg 3
  have k0 : w1.cell? ⟨w.heap.size + 1, 0, none⟩ = some (.int .i64 r') := by simpa using cell_of_heap hk 0
  have k3 : w1.cell? ⟨w.heap.size + 1, 3, none⟩ = some (.map (some mB)) := by simpa using cell_of_heap hk 3
  have hno : (rN : Int) ≠ r' → F = false := fun q => by rw [hF, decide_eq_false q]; rfl
  have hFm : (rN : Int) = r' → F = morB L ea eb := fun q => by rw [hF, decide_eq_true q, Bool.true_and]
  replace hno := hidI hno
  replace hFm := hidI hFm
  replace hF := hidI hF
  replace hL := hidI hL
  replace hla := hidI hla
  replace hlb := hidI hlb
  replace hga := hidI hga
  replace hgb := hidI hgb
  replace hpar := hidI hpar
  replace hnl := hidI hnl
  replace hlets := hidI hlets
  replace hLin := hidI hLin
  replace hca := hidI hca
  replace hcb := hidI hcb
  replace hmA := hidI hmA
  replace hmB := hidI hmB
  replace hg := hidI hg
  replace hk := hidI hk
  replace hs1 := hidI hs1
  go_enter Try.func48, Try.ntmps48
  go_upto_region 1 with fail
  rw [← hw1]
  replace hw1 := hidI hw1
  by_cases hrr : (rN : Int) = r'
  case neg =>
    have t1 : ((rN : Int) != r') = true := by rw [bne_iff_ne]; exact hrr
    have hfin := hidI (hno.out hrr)
    replace hrr := hidI hrr
    go_wp2
    go_ret
    exact ⟨ret_bool hfin.out.symm, hb1⟩
  have t1 : ((rN : Int) != r') = false := by rw [bne_eq_false_iff_eq]; exact hrr
  have hFe := hidI (hFm.out hrr)
  replace hrr := hidI hrr
  go_upto_region 3 with fail
  obtain ⟨w2, hw2⟩ : ∃ z, z = w1.alloc (.cells #[.int .i64 (-1)] 3) := ⟨_, rfl⟩
  have hb2 : Below w1.heap.size w1 w2 := by rw [hw2]; exact (Below.refl _ _).alloc (Nat.le_refl _) _
  have hs2 : w1.heap.size < w2.heap.size := by rw [hw2]; simp
  have hn2 : w2.cell? ⟨w1.heap.size, 0, none⟩ = some (.int .i64 (-1)) := by rw [hw2]; exact cell_newI _ _ _
  have hlt1 : w.heap.size + 1 < w1.heap.size := by have := hs1.out; omega
  have e1_ := fun o : Obj => ((((Below.refl w1.heap.size w1).alloc (Nat.le_refl _) o).cell (p := (⟨w.heap.size, 1, none⟩ : Addr)) (show w.heap.size < w1.heap.size by omega))).trans g1
  replace g0 := below_cell g0 hb2 (by omega)
  replace g1 := below_cell g1 hb2 (by omega)
  replace g3 := below_cell g3 hb2 (by omega)
  replace k3 := below_cell k3 hb2 (by omega)
  have hrep := repeatI_any w2 w1.heap.size (-1) hs2 hn2 sN hs40.2
  clear k0
  go_wp2_with fail
  rw [← hw2]
  replace hw2 := hidI hw2
  refine hrep.mono ?_
  rintro e w3 ⟨g, rfl, hg1, hg2, hgh, hb3⟩
  clear hrep e1_
  have hs3 := hb3.size
  replace g0 := below_cell g0 hb3 (by omega)
  replace g1 := below_cell g1 hb3 (by omega)
  replace g3 := below_cell g3 hb3 (by omega)
  replace k3 := below_cell k3 hb3 (by omega)
  have him3 : ImAt w3 g (List.replicate sN (-1)) := by
    unfold ImAt
    rw [hgh, List.map_replicate]
    rfl
  have c30 := him3.cell (i := 0) (by rw [List.length_replicate]; omega)
  have f3 := fun j => him3.frozen j
  obtain ⟨im0, him0⟩ : ∃ z, z = (List.replicate sN (-1 : Int)).set 0 0 := ⟨_, rfl⟩
  obtain ⟨w4, hw4⟩ : ∃ z, z = w3.setCell ⟨g, 0, none⟩ (.int .i64 0) := ⟨_, rfl⟩
  have him4 : Hid (ImAt w4 g im0) := hidI (by rw [hw4, him0]; exact him3.set 0 0)
  have hpr4 : Hid (PrSt L ea eb (sN : Int) ((0 : Nat) : Int) [] im0) := hidI (by
    have := PrSt.start (L := L) (ea := ea) (eb := eb) (s := (sN : Int)) (by omega)
    rw [Int.toNat_natCast] at this
    rw [him0]; exact this)
  have hin4 : Hid (InR im0) := hidI (by
    rw [him0]
    refine in_set (fun x hx => ?_) (by omega)
    have := (List.mem_replicate.1 hx).2
    omega)
  have hb34 : Below g w3 w4 := by rw [hw4]; exact (Below.refl g w3).setCell (p := ⟨g, 0, none⟩) (Nat.le_refl _) _
  have hs34 : w4.heap.size = w3.heap.size := by rw [hw4]; simp [World.setCell]
  have hbg : Hid (Below w.heap.size w w3) := hidI ((hb1.trans (hb2.mono hb1.size)).trans (hb3.mono (by omega)))
  have hgw : w.heap.size + 1 < g := by omega
  have hg4 : g < w4.heap.size := by omega
  have hk0 : Hid (Below g w3 w4) := hidI hb34
  have hmA3 : Hid (∀ W, Below g w3 W → MapS W mA (2 * ea.length) (stD ea ea.length)) := hidI (fun W hW => (hmA.out.below hbg.out hltA).below hW (by omega))
  have hmB3 : Hid (∀ W, Below g w3 W → MapS W mB (2 * eb.length) (stD eb eb.length)) := hidI (fun W hW => (hmB.out.below hbg.out hltB).below hW (by omega))
  replace him0 := hidI him0
  replace him3 := hidI him3
  replace hgh := hidI hgh
  replace hs34 := hidI hs34
  have hs0N : (0 : Int) < (sN : Int) := by omega
  clear hb2 hb3 hb34
  go_upto_region 5 with fail
  rw [← hw4]
  replace hw4 := hidI hw4
  clear c30 f3
  have hq1 := below_cell g1 hk0.out (by omega)
  go_wp2
  clear hq1
  go_loopg [6, 8, 9, 10, 11, 29] sN (fun gg x6 x8 x9 x10 x11 x29 wr => ∃ (k : Nat) (im : List Int), k + gg = sN ∧ x29 = .int .i64 k ∧ Hid (PrSt L ea eb (sN : Int) (k : Int) [] im) ∧ Hid (ImAt wr g im) ∧ Hid (InR im) ∧ Hid (Below g w3 wr) ∧ g < wr.heap.size)
  case atStart => exact ⟨0, im0, by omega, rfl, hpr4, him4, hin4, hk0, hg4⟩
  case round =>
    clear hpr4 him4 hin4 hk0 hg4
    obtain ⟨x, im, hk9, rfl, hpr, him, him64, hkb, hgr⟩ := hrel
    have y0 := below_cell g0 hkb.out (by omega)
    have y3 := below_cell g3 hkb.out (by omega)
    have z3 := below_cell k3 hkb.out (by omega)
    by_cases hlt : x < sN
    · have hki : (x : Int) < (sN : Int) := by omega
      have hcl := hlets.out wr
      replace hk9 := hidI hk9
      go_wp2_with fail
      refine hcl.mono ?_
      rintro e wl ⟨lv, rfl, hlr, hbl⟩
      clear hcl
      obtain ⟨al, ml, cl, rfl⟩ : ∃ a m c, lv = Value.slice a m c := by
        obtain ⟨_, ⟨h1, _⟩ | ⟨g, off, cap, cur, h1, _⟩⟩ := hlr <;> exact ⟨_, _, _, h1⟩
      have hml : ml = L.length := by
        obtain ⟨_, ⟨h1, h2⟩ | ⟨g, off, cap, cur, h1, _⟩⟩ := hlr
        · cases h1; rw [h2]; rfl
        · cases h1; rfl
      replace y0 := below_cell y0 hbl (by omega)
      replace y3 := below_cell y3 hbl (by omega)
      replace z3 := below_cell z3 hbl (by omega)
      have hsl := hbl.size
      have himl : Hid (ImAt wl g im) := hidI (him.out.keep (hbl.block g hgr))
      have hkl : Hid (Below g w3 wl) := hidI (hkb.out.trans (hbl.mono (by omega)))
      obtain ⟨lo0, hlo0⟩ : ∃ z, z = wr.heap.size := ⟨_, rfl⟩
      have hglo : g < lo0 := by omega
      have hlol : lo0 ≤ wl.heap.size := by omega
      have hhere : imF im (x : Int) ≠ -1 := hpr.out.here (by omega) (by omega) hpar.out
      replace hhere := hidI hhere
      have hpr0 : Hid (PrSt L ea eb (sN : Int) (x : Int) (L.take 0) im) := hpr
      have hoff0 : Hid (OffG g wl wl) := hidI (OffG.refl _ _)
      have hml6 : ml ≤ 6 := by omega
      have hrow : Hid (RowI wl lo0 wl.heap.size (.slice al ml cl) L) := hidI (by rw [hlo0]; exact hlr)
      have hIVh : Hid (∀ im', (PrSt L ea eb (sN : Int) (x : Int) (L.take 0) im') → True) := hidI (fun _ _ => trivial)
      replace hml := hidI hml
      replace hlo0 := hidI hlo0
      clear hlr hbl hpr him hIVh
      go_wp2
      go_loopg [8, 9, 10, 11, 37] ml (fun gg x8 x9 x10 x11 x37 wr => ∃ (k : Nat) (im : List Int), k + gg = ml ∧ x37 = .int .i64 k ∧ Hid (PrSt L ea eb (sN : Int) (x : Int) (L.take k) im) ∧ Hid (imF im (x : Int) ≠ -1) ∧ Hid (ImAt wr g im) ∧ Hid (InR im) ∧ Hid (OffG g wl wr))
      case atStart => exact ⟨0, im, by omega, rfl, hpr0, hhere, himl, him64, hoff0⟩
      case round =>
        clear hpr0 hhere himl him64 hoff0
        obtain ⟨k, im, hk8, rfl, hpr, hhere, him, him64, hoff⟩ := hrel
        have hsz := hoff.out.size
        have q0 := hoff.out.cell (by omega) y0
        have q3 := hoff.out.cell (by omega) y3
        have p3 := hoff.out.cell (by omega) z3
        have hbk := hidI (hkl.out.trans hoff.out.low)
        by_cases hlt2 : k < ml
        · have hki2 : (k : Int) < (ml : Int) := by omega
          have hrd : RowI wr lo0 wl.heap.size (.slice al ml cl) L := hrow.out.keep (fun j h1 h2 => hoff.out.block j (by omega))
          obtain ⟨lb, lo, hlb, hlB, c4⟩ := hrd.read.at2 k (by have := hml.out; omega)
          subst hlb
          obtain ⟨z, hz⟩ : ∃ z, z = L.getD k 0 := ⟨_, rfl⟩
          rw [← hz] at c4
          have hzm : z ∈ L := by
            have hkL : k < L.length := by have := hml.out; omega
            rw [hz, List.getD_eq_getElem?_getD, List.getElem?_eq_getElem hkL]
            exact List.getElem_mem hkL
          have hzb := hLin.out z hzm
          have hz64 : Hid (I64 z) := hidI (by unfold I64; omega)
          have htk : L.take (k + 1) = L.take k ++ [z] := by rw [hz]; exact take_get (by have := hml.out; omega)
          have hkyA := kS_key (x : Int) z (by unfold I64; omega) hz64.out
          have hlookA := stD_look hga.out.1 hga.out.2 (v := (x : Int)) (l := z) (by unfold I64; omega) hz64.out
          have hyl := hnl.out (x : Int) z hzb
          obtain ⟨y, hy⟩ : ∃ t, t = nxV ea (x : Int) z := ⟨_, rfl⟩
          rw [← hy] at hlookA hyl
          obtain ⟨D, hD⟩ : ∃ D, D = stD ea ea.length := ⟨_, rfl⟩
          have hmD := hmA3.out wr hbk.out
          rw [← hD] at hlookA hmD
          replace hmD := hidI hmD
          replace hD := hidI hD
          replace hkyA := hidI hkyA
          replace hk8 := hidI hk8
          replace hrd := hidI hrd
          replace hz := hidI hz
          replace hzb := hidI hzb
          replace hyl := hidI hyl
          rcases hlookA with ⟨hh, hy0, hys, hat2⟩ | ⟨hh, hyn⟩
          case inr =>
            have hnx : Hid (PrSt L ea eb (sN : Int) (x : Int) (L.take (k + 1)) im) := hidI (by rw [htk]; exact hpr.out.skip (by rw [← hy]; omega))
            replace hyn := hidI hyn
            replace hy := hidI hy
            replace htk := hidI htk
            go_wp2_with (at_lookup; go_must (refine wpList_lookup_own_ok_int _ rfl _ _ 55 rfl 82 3 .i64 lawS Try.underlying55 Try.underlying3 (zeroInt _) mA _ D rfl hmD.out _ _ rfl hkyA.out ?_; intro c hc hwc))
            clear hc hwc
            go_roundg (ml - (k + 1))
            case rel => exact ⟨k + 1, im, by have := hk8.out; omega, by go_num, hnx, hhere, him, him64, hoff⟩
            case measure => have := hk8.out; omega
          case inl =>
            obtain ⟨yN, hyN⟩ : ∃ yN : Nat, y = (yN : Int) := ⟨y.toNat, by omega⟩
            subst hyN
            replace hat2 := hidI hat2
            have hyl2 : yN < sN := by omega
            have hilen := hpr.out.len
            obtain ⟨IV, hIVe⟩ : ∃ z, z = imF im (x : Int) := ⟨_, rfl⟩
            have hIV : Hid (I64 IV) := hidI (by rw [hIVe]; exact imF_in him64.out _)
            have cx := him.out.cell (i := x) (by omega)
            have cy := him.out.cell (i := yN) (by omega)
            rw [show im.getD x 0 = IV by rw [hIVe]; unfold imF; rw [Int.toNat_natCast]] at cx
            obtain ⟨q, hq⟩ : ∃ q, q = imF im (yN : Int) := ⟨_, rfl⟩
            rw [show im.getD yN 0 = q by rw [hq]; unfold imF; rw [Int.toNat_natCast]] at cy
            obtain ⟨u, hu⟩ : ∃ u, u = nxV eb IV z := ⟨_, rfl⟩
            have hu64 : -9223372036854775808 ≤ u ∧ u ≤ 9223372036854775807 := by
              rw [hu]
              rcases nx_cases hgb.out.1 hgb.out.2 (v := IV) (l := z) hz64.out with h | h
              · have := h.2; have := hlb.out; omega
              · have := h.1; omega
            obtain ⟨wd, hwd⟩ : ∃ t, t = wr.drew := ⟨_, rfl⟩
            have hbwd : Below wr.heap.size wr wd := by rw [hwd]; exact below_dn (Below.refl _ _) 1
            have hoffd : Hid (OffG g wl wd) := hidI (by rw [hwd]; exact hoff.out.drew)
            have himd : Hid (ImAt wd g im) := hidI (by rw [hwd]; exact him.out)
            have hbkd := hidI (hkl.out.trans hoffd.out.low)
            have hbwd0 := hidI (hbg.out.trans (hbkd.out.mono (by omega)))
            have d3 := below_cell p3 hbwd (by omega)
            have dx := below_cell cx hbwd (by omega)
            have dy := below_cell cy hbwd (by omega)
            have fy := fun j => himd.out.frozen j
            have hya : Hid (0 ≤ nxV ea (x : Int) z ∧ nxV ea (x : Int) z < (sN : Int) ∧ nxV ea (x : Int) z = (yN : Int)) := hidI (by rw [← hy]; omega)
            have hubk : Hid (nxV eb (imF im (x : Int)) z = u) := hidI (by rw [hu, hIVe])
            replace hy0 := hidI hy0
            replace hys := hidI hys
            replace hy := hidI hy
            replace hIVe := hidI hIVe
            replace hwd := hidI hwd
            replace hilen := hidI hilen
            clear hbwd p3 cx cy
            go_upto_region 13 with (at_lookup; go_must (refine wpList_lookup_own_ok_int _ rfl _ _ 55 rfl 82 3 .i64 lawS Try.underlying55 Try.underlying3 (zeroInt _) mA _ D rfl hmD.out _ _ rfl hkyA.out ?_; intro c hc hwc; obtain rfl : c = (yN : Int) := by (rw [hat2.out] at hc; simpa using hc.symm)))
            clear hc hwc
            by_cases hu0 : 0 ≤ u
            case neg =>
              have hzd : Hid (decide (0 ≤ nxV eb IV z) = false) := hidI (by rw [← hu]; exact decide_eq_false hu0)
              have hfin : Hid (F = false) := hidI (by rw [hFe.out]; exact hpr.out.none (by omega) hhere.out hzm hya.out.1 (by rw [hubk.out]; omega))
              replace hu0 := hidI hu0
              replace hu := hidI hu
              refine hideQ (fun _ _ d _ _ h => by cases d <;> exact h) (fun Q' hnorm hpan => ?_)
              refine wp_region_held_drew (S := (fun W0 => W0.cell? ⟨w.heap.size + 1, 3, none⟩ = some (.map (some mB)) ∧ W0.cell? ⟨g, x, none⟩ = some (.int .i64 IV))) (by kernel_rfl) ?_ (fun hHeld => ?_)
              · try dsimp only
                first | ((repeat' apply And.intro) <;> assumption) | (rw [← hwd.out]; ((repeat' apply And.intro) <;> assumption))
              rw [← hwd.out] at hHeld ⊢
              refine tk 0 53 ?_
              refine tk 1 54 ?_
              refine tk 2 55 ?_
              refine tk 3 56 ?_
              refine tk 4 57 ?_
              refine tk 5 58 ?_
              refine tk 6 59 ?_
              refine tk 7 60 ?_
              refine rd 8 (fun K hK => ?_)
              rw [if_pos (by rfl)]
              refine step_lookS _ _ rfl mB r' s' eb IV z false rfl rfl (hmB.out.below hbwd0.out hltB) hgb.out.1 hgb.out.2 hIV.out hz64.out hzd.out ?_
              intro c13 hc13
              refine hK.out _ _ ?_ (fun hHeld => ?_)
              · try dsimp only
                first | ((repeat' apply And.intro) <;> assumption) | (rw [← hwd.out]; ((repeat' apply And.intro) <;> assumption))
              clear hK
              try simp only [Act.put, List.setIfInBounds_toArray, List.set_cons_zero, List.set_cons_succ]
              refine tk 9 52 ?_
              refine tk 10 62 ?_
              refine tk 11 63 ?_
              refine tk 12 11 ?_
              refine tk 13 10 ?_
              refine wpAnyH_done (by kernel_rfl) ?_ _
              refine hnorm _ _ ?_
              clear hnorm hpan
              repeat clear hHeld
              try simp only [Exit.then]
              clear hc13
              have hbz := hidI hbwd0.out
              go_wp2
              go_ret
              exact ⟨ret_bool hfin.out.symm, hbz.out⟩
            have hzd : Hid (decide (0 ≤ nxV eb IV z) = true) := hidI (by rw [← hu]; exact decide_eq_true hu0)
            have hc13u : Hid (∀ c : Int, (0 ≤ nxV eb IV z → c = nxV eb IV z) → c = u) := hidI (fun c h => by rw [hu]; exact h (by rw [← hu]; exact hu0))
            replace hu := hidI hu
            refine hideQ (fun _ _ d _ _ h => by cases d <;> exact h) (fun Q' hnorm hpan => ?_)
            refine wp_region_held_drew (S := (fun W0 => W0.cell? ⟨w.heap.size + 1, 3, none⟩ = some (.map (some mB)) ∧ W0.cell? ⟨g, x, none⟩ = some (.int .i64 IV))) (by kernel_rfl) ?_ (fun hHeld => ?_)
            · try dsimp only
              first | ((repeat' apply And.intro) <;> assumption) | (rw [← hwd.out]; ((repeat' apply And.intro) <;> assumption))
            rw [← hwd.out] at hHeld ⊢
            refine tk 0 53 ?_
            refine tk 1 54 ?_
            refine tk 2 55 ?_
            refine tk 3 56 ?_
            refine tk 4 57 ?_
            refine tk 5 58 ?_
            refine tk 6 59 ?_
            refine tk 7 60 ?_
            refine rd 8 (fun K hK => ?_)
            rw [if_pos (by rfl)]
            refine step_lookS _ _ rfl mB r' s' eb IV z true rfl rfl (hmB.out.below hbwd0.out hltB) hgb.out.1 hgb.out.2 hIV.out hz64.out hzd.out ?_
            intro c13 hc13
            refine hK.out _ _ ?_ (fun hHeld => ?_)
            · try dsimp only
              first | ((repeat' apply And.intro) <;> assumption) | (rw [← hwd.out]; ((repeat' apply And.intro) <;> assumption))
            clear hK
            try simp only [Act.put, List.setIfInBounds_toArray, List.set_cons_zero, List.set_cons_succ]
            refine tk 9 52 ?_
            refine tk 10 62 ?_
            refine tk 11 63 ?_
            refine tk 12 11 ?_
            refine tk 13 10 ?_
            refine wpAnyH_done (by kernel_rfl) ?_ _
            refine hnorm _ _ ?_
            clear hnorm hpan
            repeat clear hHeld
            try simp only [Exit.then]
            obtain rfl : c13 = u := hc13u.out c13 hc13
            clear hc13 hc13u
            by_cases hq1 : q = -1 ∨ q = c13
            case neg =>
              have hfin : Hid (F = false) := hidI (by rw [hFe.out]; exact hpr.out.clash (by omega) hhere.out hzm hya.out.1 hya.out.2.1 (by rw [hya.out.2.2, ← hq]; exact fun e => hq1 (.inl e)) (by rw [hya.out.2.2, ← hq, hubk.out]; exact fun e => hq1 (.inr e)))
              have b1 : (q != -1) = true := by rw [bne_iff_ne]; exact fun e => hq1 (.inl e)
              have b2 : (q != c13) = true := by rw [bne_iff_ne]; exact fun e => hq1 (.inr e)
              replace hq1 := hidI hq1
              replace hq := hidI hq
              have hbz := hidI hbwd0.out
              go_wp2
              go_ret
              exact ⟨ret_bool hfin.out.symm, hbz.out⟩
            have hput := hpr.out.put (l := z) (by omega) hhere.out hzm hya.out.1 hya.out.2.1 (by rw [hubk.out]; exact hu0) (by rw [hya.out.2.2, ← hq, hubk.out]; exact hq1)
            rw [hya.out.2.2, hubk.out, Int.toNat_natCast, ← htk] at hput
            obtain ⟨w9, hw9⟩ : ∃ t, t = wd.setCell ⟨g, yN, none⟩ (.int .i64 c13) := ⟨_, rfl⟩
            have him9 : Hid (ImAt w9 g (im.set yN c13)) := hidI (by rw [hw9]; exact himd.out.set yN c13)
            have hoff9 : Hid (OffG g wl w9) := hidI (by rw [hw9]; exact hoffd.out.set yN _)
            have him649 : Hid (InR (im.set yN c13)) := hidI (in_set him64.out hu64)
            have hhere9 : Hid (imF (im.set yN c13) (x : Int) ≠ -1) := hidI (by
              have h9 := imF_set (im := im) (x := (yN : Int)) (y := c13) (z := (x : Int)) (by omega) (by have := hilen.out; omega) (by omega)
              rw [Int.toNat_natCast] at h9
              rw [h9]
              split
              · omega
              · exact hhere.out)
            replace hput := hidI hput
            replace htk := hidI htk
            rcases hq1 with hq1 | hq1
            all_goals
              first
                | (have b1 : (q != -1) = false := by rw [bne_eq_false_iff_eq]; exact hq1)
                | skip
              by_cases hqm : q = -1
              · have b1 : (q != -1) = false := by rw [bne_eq_false_iff_eq]; exact hqm
                replace hq1 := hidI hq1
                replace hqm := hidI hqm
                replace hq := hidI hq
                replace hu0 := hidI hu0
                go_wp2
                rw [← hw9]
                replace hw9 := hidI hw9
                go_roundg (ml - (k + 1))
                case rel => exact ⟨k + 1, im.set yN c13, by have := hk8.out; omega, by go_num, hput, hhere9, him9, him649, hoff9⟩
                case measure => have := hk8.out; omega
              · have b1 : (q != -1) = true := by rw [bne_iff_ne]; exact hqm
                have b2 : (q != c13) = false := by rw [bne_eq_false_iff_eq]; omega
                replace hq1 := hidI hq1
                replace hqm := hidI hqm
                replace hq := hidI hq
                replace hu0 := hidI hu0
                go_wp2
                rw [← hw9]
                replace hw9 := hidI hw9
                go_roundg (ml - (k + 1))
                case rel => exact ⟨k + 1, im.set yN c13, by have := hk8.out; omega, by go_num, hput, hhere9, him9, him649, hoff9⟩
                case measure => have := hk8.out; omega
        · obtain rfl : k = ml := by omega
          have hki2 : ¬ (k : Int) < (k : Int) := by omega
          have hnx : Hid (PrSt L ea eb (sN : Int) (((x + 1 : Nat)) : Int) [] im) := hidI (by
            have h9 := hpr.out
            rw [List.take_of_length_le (by have := hml.out; omega)] at h9
            have := h9.next
            simpa using this)
          have hb9 : Hid (Below g w3 wr) := hbk
          have hg9 : g < wr.heap.size := by omega
          replace hk8 := hidI hk8
          go_wp2
          go_roundg (sN - (x + 1))
          case rel => exact ⟨x + 1, im, by have := hk9.out; omega, by go_num, hnx, him, him64, hb9, hg9⟩
          case measure => have := hk9.out; omega
    · obtain rfl : x = sN := by omega
      have hki : ¬ (x : Int) < (x : Int) := by omega
      have hfin : Hid (F = true) := hidI (by rw [hFe.out]; exact hpr.out.done)
      have hbz := hidI (hbg.out.trans (hkb.out.mono (by omega)))
      replace hk9 := hidI hk9
      go_wp2
      go_ret
      exact ⟨ret_bool hfin.out.symm, hbz.out⟩
set_option maxRecDepth 100000 in
set_option maxHeartbeats 6400000 in
theorem progIsIn (w : World) (r s : Int) (v : Value) (ea : List Ed) (r' s' : Int) (v' : Value) (eb : List Ed) (h : ReadE w.heap.size w v ea) (h' : ReadE w.heap.size w v' eb) (hl : ea.length ≤ 10000000) (hl' : eb.length ≤ 10000000) :
    Calls Try.prog 22 #[.agg #[.int .i64 r, .int .i64 s, v], .agg #[.int .i64 r', .int .i64 s', v']] w (LwBool w (suIn r s ea r' s' eb)) := by
  obtain ⟨a, cap, rfl, hnc⟩ := h.form
  obtain ⟨a', cap', rfl, hnc'⟩ := h'.form
  obtain ⟨n, hn⟩ : ∃ n, n = ea.length := ⟨_, rfl⟩
  obtain ⟨n', hn'⟩ : ∃ n, n = eb.length := ⟨_, rfl⟩
  rw [← hn] at h hl hnc
  rw [← hn'] at h' hl' hnc'
  rw [← hn, ← hn']
  obtain ⟨w1, hw1⟩ : ∃ w1, w1 = (w.alloc (.cells #[.int .i64 r, .int .i64 s, .slice a n cap] 29)).alloc (.cells #[.int .i64 r', .int .i64 s', .slice a' n' cap'] 29) := ⟨_, rfl⟩
  have hb1 : Below w.heap.size w w1 := by rw [hw1]; exact ((Below.refl _ _).alloc (Nat.le_refl _) _).alloc (by simp) _
  have hs1 : w1.heap.size = w.heap.size + 1 + 1 := by rw [hw1]; simp
  have hg := heap_box w (.cells #[.int .i64 r, .int .i64 s, .slice a n cap] 29) (.cells #[.int .i64 r', .int .i64 s', .slice a' n' cap'] 29)
  have hk := heap_alloc_new (w.alloc (.cells #[.int .i64 r, .int .i64 s, .slice a n cap] 29)) (.cells #[.int .i64 r', .int .i64 s', .slice a' n' cap'] 29)
  rw [← hw1] at hg hk
  rw [show (w.alloc (.cells #[.int .i64 r, .int .i64 s, .slice a n cap] 29)).heap.size = w.heap.size + 1 by simp] at hk
  obtain ⟨g0, g1, g2⟩ := cell3 hg
  obtain ⟨k0, k1, k2⟩ := cell3 hk
  simp at g0 g1 g2 k0 k1 k2
  have hsub := progSubIn w1 r s (.slice a n cap) ea (by have := (h.below hb1).mono hb1.size; exact this) (by omega)
  have hsub2 := fun (W : World) (hW : Below w.heap.size w W) => progSubIn W r' s' (.slice a' n' cap') eb ((h'.below hW).mono hW.size) (by omega)
  obtain ⟨F, hF⟩ : ∃ F, F = suIn r s ea r' s' eb := ⟨_, rfl⟩
  rw [← hF]
  replace hF := hidI hF
  replace hn := hidI hn
  replace hn' := hidI hn'
  replace h := hidI h
  replace h' := hidI h'
  replace hsub2 := hidI hsub2
  replace hg := hidI hg
  replace hk := hidI hk
  replace hs1 := hidI hs1
  have hl1 : w.heap.size + 1 < w1.heap.size := by have := hs1.out; omega
  go_enter Try.func22, Try.ntmps22
  go_upto_region 1 with fail
  rw [← hw1]
  replace hw1 := hidI hw1
  go_wp2_with fail
  refine hsub.mono ?_
  rintro e w2 (⟨hca, mA, rfl, hla, hlA, hmA, hb2⟩ | ⟨hca, rfl, hb2⟩)
  case inl =>
    clear hsub
    have hs2 := hb2.size
    replace k0 := below_cell k0 hb2 hl1
    replace k1 := below_cell k1 hb2 hl1
    replace k2 := below_cell k2 hb2 hl1
    clear g0 g1 g2
    have hb12 := hb1.trans (hb2.mono hb1.size)
    obtain ⟨w3, hw3⟩ : ∃ z, z = w2.alloc (.cells #[.int .i64 r, .int .i64 s, .slice a n cap, .map (some mA)] 57) := ⟨_, rfl⟩
    have hb3 : Below w2.heap.size w2 w3 := by rw [hw3]; exact (Below.refl _ _).alloc (Nat.le_refl _) _
    have hs3 : w2.heap.size < w3.heap.size := by rw [hw3]; simp
    obtain ⟨x0, x1, x2, x3⟩ := box4 hw3
    have hb13 := hidI (hb12.trans (hb3.mono hb12.size))
    replace k0 := below_cell k0 hb3 (by omega)
    replace k1 := below_cell k1 hb3 (by omega)
    replace k2 := below_cell k2 hb3 (by omega)
    have hmA3 := hidI (hmA.below hb3 hlA)
    replace hmA := hidI hmA
    have hcl := hsub2.out w3 hb13.out
    replace hca := hidI hca
    clear hb2 hb3 hb12
    go_upto_region 2 with fail
    rw [← hw3]
    replace hw3 := hidI hw3
    go_wp2_with fail
    refine hcl.mono ?_
    rintro e w4 (⟨hcb, mB, rfl, hlb, hlB, hmB, hb4⟩ | ⟨hcb, rfl, hb4⟩)
    case inl =>
      clear hcl k0 k1 k2
      have hs4 := hb4.size
      replace x0 := below_cell x0 hb4 hs3
      replace x1 := below_cell x1 hb4 hs3
      replace x2 := below_cell x2 hb4 hs3
      replace x3 := below_cell x3 hb4 hs3
      have hb14 := hb13.out.trans (hb4.mono hb13.out.size)
      obtain ⟨w5, hw5⟩ : ∃ z, z = w4.alloc (.cells #[.int .i64 r', .int .i64 s', .slice a' n' cap', .map (some mB)] 57) := ⟨_, rfl⟩
      have hb5 : Below w4.heap.size w4 w5 := by rw [hw5]; exact (Below.refl _ _).alloc (Nat.le_refl _) _
      have hs5 : w4.heap.size < w5.heap.size := by rw [hw5]; simp
      obtain ⟨y0, y1, y2, y3⟩ := box4 hw5
      have hb15 := hidI (hb14.trans (hb5.mono hb14.size))
      replace x0 := below_cell x0 hb5 (by omega)
      replace x1 := below_cell x1 hb5 (by omega)
      replace x2 := below_cell x2 hb5 (by omega)
      replace x3 := below_cell x3 hb5 (by omega)
      have hcall := isIn_any w5 r s r' s' (.slice a n cap) (.slice a' n' cap') ea eb mA mB ⟨_, _, _, rfl⟩ ⟨_, _, _, rfl⟩ hca.out hcb ((hmA3.out.below hb4 (by omega)).below hb5 (by omega)) (by omega) (hmB.below hb5 hlB) (by omega)
      rw [← suIn_both hca.out hcb, ← hF.out] at hcall
      replace hmB := hidI hmB
      replace hcb := hidI hcb
      clear hb4 hb5 hb14
      go_upto_region 3 with fail
      rw [← hw5]
      replace hw5 := hidI hw5
      go_wp2_with fail
      refine hcall.mono ?_
      rintro e w6 ⟨rfl, hb6⟩
      clear hcall
      have hbz := hidI (hb15.out.trans (hb6.mono hb15.out.size))
      go_wp2
      go_ret
      exact ⟨ret_bool rfl, hbz.out⟩
    case inr =>
      clear hcl k0 k1 k2
      have hs4 := hb4.size
      replace x0 := below_cell x0 hb4 hs3
      replace x1 := below_cell x1 hb4 hs3
      replace x2 := below_cell x2 hb4 hs3
      replace x3 := below_cell x3 hb4 hs3
      have hb14 := hb13.out.trans (hb4.mono hb13.out.size)
      obtain ⟨w5, hw5⟩ : ∃ z, z = w4.alloc (.cells #[.int .i64 0, .int .i64 0, .slice none 0 0, .map none] 57) := ⟨_, rfl⟩
      have hb5 : Below w4.heap.size w4 w5 := by rw [hw5]; exact (Below.refl _ _).alloc (Nat.le_refl _) _
      have hs5 : w4.heap.size < w5.heap.size := by rw [hw5]; simp
      obtain ⟨y0, y1, y2, y3⟩ := box4 hw5
      have hb15 := hidI (hb14.trans (hb5.mono hb14.size))
      replace x0 := below_cell x0 hb5 (by omega)
      replace x1 := below_cell x1 hb5 (by omega)
      replace x2 := below_cell x2 hb5 (by omega)
      replace x3 := below_cell x3 hb5 (by omega)
      have hfin : Hid (F = false) := hidI (by rw [hF.out]; unfold suIn; rw [hcb]; simp)
      replace hcb := hidI hcb
      clear hb4 hb5 hb14
      go_upto_region 3 with fail
      rw [← hw5]
      replace hw5 := hidI hw5
      go_wp2
      go_ret
      exact ⟨ret_bool hfin.out.symm, hb15.out⟩
  case inr =>
    clear hsub
    have hs2 := hb2.size
    replace k0 := below_cell k0 hb2 hl1
    replace k1 := below_cell k1 hb2 hl1
    replace k2 := below_cell k2 hb2 hl1
    clear g0 g1 g2
    have hb12 := hb1.trans (hb2.mono hb1.size)
    obtain ⟨w3, hw3⟩ : ∃ z, z = w2.alloc (.cells #[.int .i64 0, .int .i64 0, .slice none 0 0, .map none] 57) := ⟨_, rfl⟩
    have hb3 : Below w2.heap.size w2 w3 := by rw [hw3]; exact (Below.refl _ _).alloc (Nat.le_refl _) _
    have hs3 : w2.heap.size < w3.heap.size := by rw [hw3]; simp
    obtain ⟨x0, x1, x2, x3⟩ := box4 hw3
    have hb13 := hidI (hb12.trans (hb3.mono hb12.size))
    replace k0 := below_cell k0 hb3 (by omega)
    replace k1 := below_cell k1 hb3 (by omega)
    replace k2 := below_cell k2 hb3 (by omega)
    have hcl := hsub2.out w3 hb13.out
    replace hca := hidI hca
    clear hb2 hb3 hb12
    go_upto_region 2 with fail
    rw [← hw3]
    replace hw3 := hidI hw3
    go_wp2_with fail
    refine hcl.mono ?_
    rintro e w4 (⟨hcb, mB, rfl, hlb, hlB, hmB, hb4⟩ | ⟨hcb, rfl, hb4⟩)
    case inl =>
      clear hcl k0 k1 k2
      have hs4 := hb4.size
      replace x0 := below_cell x0 hb4 hs3
      replace x1 := below_cell x1 hb4 hs3
      replace x2 := below_cell x2 hb4 hs3
      replace x3 := below_cell x3 hb4 hs3
      have hb14 := hb13.out.trans (hb4.mono hb13.out.size)
      obtain ⟨w5, hw5⟩ : ∃ z, z = w4.alloc (.cells #[.int .i64 r', .int .i64 s', .slice a' n' cap', .map (some mB)] 57) := ⟨_, rfl⟩
      have hb5 : Below w4.heap.size w4 w5 := by rw [hw5]; exact (Below.refl _ _).alloc (Nat.le_refl _) _
      have hs5 : w4.heap.size < w5.heap.size := by rw [hw5]; simp
      obtain ⟨y0, y1, y2, y3⟩ := box4 hw5
      have hb15 := hidI (hb14.trans (hb5.mono hb14.size))
      replace x0 := below_cell x0 hb5 (by omega)
      replace x1 := below_cell x1 hb5 (by omega)
      replace x2 := below_cell x2 hb5 (by omega)
      replace x3 := below_cell x3 hb5 (by omega)
      have hfin : Hid (F = false) := hidI (by rw [hF.out]; unfold suIn; rw [hca.out]; simp)
      replace hmB := hidI hmB
      replace hcb := hidI hcb
      clear hb4 hb5 hb14
      go_upto_region 3 with fail
      rw [← hw5]
      replace hw5 := hidI hw5
      go_wp2
      go_ret
      exact ⟨ret_bool hfin.out.symm, hb15.out⟩
    case inr =>
      clear hcl k0 k1 k2
      have hs4 := hb4.size
      replace x0 := below_cell x0 hb4 hs3
      replace x1 := below_cell x1 hb4 hs3
      replace x2 := below_cell x2 hb4 hs3
      replace x3 := below_cell x3 hb4 hs3
      have hb14 := hb13.out.trans (hb4.mono hb13.out.size)
      obtain ⟨w5, hw5⟩ : ∃ z, z = w4.alloc (.cells #[.int .i64 0, .int .i64 0, .slice none 0 0, .map none] 57) := ⟨_, rfl⟩
      have hb5 : Below w4.heap.size w4 w5 := by rw [hw5]; exact (Below.refl _ _).alloc (Nat.le_refl _) _
      have hs5 : w4.heap.size < w5.heap.size := by rw [hw5]; simp
      obtain ⟨y0, y1, y2, y3⟩ := box4 hw5
      have hb15 := hidI (hb14.trans (hb5.mono hb14.size))
      replace x0 := below_cell x0 hb5 (by omega)
      replace x1 := below_cell x1 hb5 (by omega)
      replace x2 := below_cell x2 hb5 (by omega)
      replace x3 := below_cell x3 hb5 (by omega)
      have hfin : Hid (F = false) := hidI (by rw [hF.out]; unfold suIn; rw [hcb]; simp)
      replace hcb := hidI hcb
      clear hb4 hb5 hb14
      go_upto_region 3 with fail
      rw [← hw5]
      replace hw5 := hidI hw5
      go_wp2
      go_ret
      exact ⟨ret_bool hfin.out.symm, hb15.out⟩
end Go.Proofs.Ytjnhhhnehkmfmaa
