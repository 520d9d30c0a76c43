/- Inclusions, the model: IsInside (tools/ze.py). -/
import Derived.Test.YtjnhhhnehkmfmaaZA
import Derived.Test.YtjnhhhnehkmfmaaZO
import Derived.Test.YtjnhhhnehkmfmaaRL
import Derived.Test.YtjnhhhnehkmfmaaRK
import Derived.Test.YtjnhhhnehkmfmaaLET
import Derived.Deep.LoopGhost
import Derived.Deep.Cut
import Derived.Deep.RegionHeld3
namespace Go.Proofs.Ytjnhhhnehkmfmaa
open Go.RowKit Go.Maps
set_option linter.unusedVariables false
set_option linter.unusedSimpArgs false

theorem take_getM {L : List Int} {k : Nat} (h : k < L.length) : L.take (k + 1) = L.take k ++ [L.getD k 0] := by
  rw [List.take_add_one, List.getElem?_eq_getElem h, List.getD_eq_getElem?_getD, List.getElem?_eq_getElem h]
  rfl
/-- The vertices seen, the letters, the images. -/
structure InSt (w : World) (P base lo hi : Nat) (v : Value) (seen : List Int) (lv : Value) (ls im : List Int) : Prop where
  co : CoSt w base lo hi v seen lv ls
  im : ImAt w P im
  pb : P < base
  bs : base ≤ w.heap.size
theorem InSt.below {w w' : World} {P base lo hi : Nat} {v : Value} {seen : List Int} {lv : Value} {ls im : List Int} (h : InSt w P base lo hi v seen lv ls im) (hb : Below w.heap.size w w') : InSt w' P base lo hi v seen lv ls im :=
  ⟨h.co.below hb, h.im.keep (hb.block P h.im.lt), h.pb, Nat.le_trans h.bs hb.size⟩
theorem InSt.push {w w' : World} {P base lo hi : Nat} {v v' : Value} {seen : List Int} {lv : Value} {ls im : List Int} {z : Int} (h : InSt w P base lo hi v seen lv ls im) (ho : OwnsI w' base v' (seen ++ [z]))
    (hg : (w.alloc (.cells #[.int .i64 z] 3)).grownBy w' v.ownBlock) (hv : v'.ownBlock = v.ownBlock ∨ v'.ownBlock = some (w.heap.size + 1)) : InSt w' P base lo hi v' (seen ++ [z]) lv ls im := by
  have hlt := h.im.lt
  have hsz := hg.size
  have hb := (Below.refl w.heap.size w).alloc (Nat.le_refl _) (.cells #[.int .i64 z] 3)
  refine ⟨h.co.push ho hg hv, h.im.keep ?_, h.pb, ?_⟩
  · rw [hg.block P (by simp; omega) (fun e => by
      have := (World.ownsRow.lt h.co.1 P e.symm).1
      have := h.pb
      omega)]
    exact hb.block P hlt
  · have := h.bs; simp at hsz; omega
theorem InSt.set {w : World} {P base lo hi : Nat} {v : Value} {seen : List Int} {lv : Value} {ls im : List Int} (h : InSt w P base lo hi v seen lv ls im) (hlo : P < lo) (i : Nat) (z : Int) : InSt (w.setCell ⟨P, i, none⟩ (.int .i64 z)) P base lo hi v seen lv ls (im.set i z) := by
  have hpb := h.pb
  have hk : ∀ j, j ≠ P → (w.setCell ⟨P, i, none⟩ (.int .i64 z)).heap[j]? = w.heap[j]? := fun j hj => Below.heap_setCell _ _ _ _ hj
  have hs : (w.setCell ⟨P, i, none⟩ (.int .i64 z)).heap.size = w.heap.size := by simp [World.setCell]
  refine ⟨⟨ownI_other h.co.1 (fun k q => hk k ?_), h.co.2.1.keep (fun k q1 q2 => hk k (by omega)), by rw [hs]; exact h.co.2.2.1, h.co.2.2.2⟩, h.im.set i z, h.pb, by rw [hs]; exact h.bs⟩
  have := (World.ownsRow.lt h.co.1 k q).1
  omega
set_option maxRecDepth 100000 in
set_option maxHeartbeats 6400000 in
theorem specIsIn (w : World) (r s : Int) (v : Value) (ea : List Ed) (r' s' : Int) (v' : Value) (eb : List Ed) (h : ReadE w.heap.size w v ea) (h' : ReadE w.heap.size w v' eb) (hs : -9223372036854775808 ≤ s ∧ s ≤ 9223372036854775807) (hs' : -9223372036854775808 ≤ s' ∧ s' ≤ 9223372036854775807) (hl : ea.length ≤ 10000000) (hl' : eb.length ≤ 10000000) :
    Calls Try.prog 21 #[.agg #[.int .i64 r, .int .i64 s, v], .agg #[.int .i64 r', .int .i64 s', v']] w (LwBool w (suIn r s ea r' s' eb)) := by
  obtain ⟨a, cap, rfl, hnc⟩ := h.form
  obtain ⟨a', cap', rfl, hnc'⟩ := h'.form
  obtain ⟨n, hn⟩ : ∃ n, n = ea.length := ⟨_, rfl⟩
  obtain ⟨n', hn'⟩ : ∃ n, n = eb.length := ⟨_, rfl⟩
  rw [← hn] at h hl hnc
  rw [← hn'] at h' hl' hnc'
  rw [← hn, ← hn']
  obtain ⟨w1, hw1⟩ : ∃ w1, w1 = (w.alloc (.cells #[.int .i64 r, .int .i64 s, .slice a n cap] 29)).alloc (.cells #[.int .i64 r', .int .i64 s', .slice a' n' cap'] 29) := ⟨_, rfl⟩
  have hb1 : Below w.heap.size w w1 := by rw [hw1]; exact ((Below.refl _ _).alloc (Nat.le_refl _) _).alloc (by simp) _
  have hs1 : w1.heap.size = w.heap.size + 1 + 1 := by rw [hw1]; simp
  have hg := heap_box w (.cells #[.int .i64 r, .int .i64 s, .slice a n cap] 29) (.cells #[.int .i64 r', .int .i64 s', .slice a' n' cap'] 29)
  have hk := heap_alloc_new (w.alloc (.cells #[.int .i64 r, .int .i64 s, .slice a n cap] 29)) (.cells #[.int .i64 r', .int .i64 s', .slice a' n' cap'] 29)
  rw [← hw1] at hg hk
  rw [show (w.alloc (.cells #[.int .i64 r, .int .i64 s, .slice a n cap] 29)).heap.size = w.heap.size + 1 by simp] at hk
  obtain ⟨g0, g1, g2⟩ := cell3 hg
  obtain ⟨k0, k1, k2⟩ := cell3 hk
  simp at g0 g1 g2 k0 k1 k2
  have hsub := specIsSub w1 r s (.slice a n cap) ea (by have := (h.below hb1).mono hb1.size; exact this) hs (by omega)
  have hsub2 := fun (W : World) (hW : Below w.heap.size w W) => specIsSub W r' s' (.slice a' n' cap') eb ((h'.below hW).mono hW.size) hs' (by omega)
  have hnextA := fun (W : World) (x y : Int) (hW : Below w.heap.size w W) => specNext W r s (.slice a n cap) ea x y ((h.below hW).mono hW.size) (by omega)
  have hnextB := fun (W : World) (x y : Int) (hW : Below w.heap.size w W) => specNext W r' s' (.slice a' n' cap') eb x y ((h'.below hW).mono hW.size) (by omega)
  obtain ⟨F, hF⟩ : ∃ F, F = suIn r s ea r' s' eb := ⟨_, rfl⟩
  obtain ⟨B, hB⟩ : ∃ B, B = isCo r s ea := ⟨_, rfl⟩
  obtain ⟨C, hC⟩ : ∃ B, B = isCo r' s' eb := ⟨_, rfl⟩
  have hFe : F = (B && C && decide (r = r') && morB (letsN r.toNat) ea eb) := by rw [hF, hB, hC]; rfl
  rw [← hB] at hsub
  rw [← hC] at hsub2
  rw [← hF]
  replace hF := hidI hF
  replace hFe := hidI hFe
  replace hB := hidI hB
  replace hC := hidI hC
  replace hn := hidI hn
  replace hn' := hidI hn'
  replace h := hidI h
  replace h' := hidI h'
  replace hsub2 := hidI hsub2
  replace hnextA := hidI hnextA
  replace hnextB := hidI hnextB
  replace hg := hidI hg
  replace hk := hidI hk
  replace hs1 := hidI hs1
  have hl1 : w.heap.size + 1 < w1.heap.size := by have := hs1.out; omega
  go_enter Try.func21, Try.ntmps21
  go_upto_region 1 with fail
  rw [← hw1]
  replace hw1 := hidI hw1
  go_wp2_with fail
  refine hsub.mono ?_
  rintro e w2 ⟨rfl, hb2⟩
  clear hsub
  have hb12 := hidI (hb1.trans (hb2.mono hb1.size))
  have hs2 := hb2.size
  replace g0 := below_cell g0 hb2 (by omega)
  replace g1 := below_cell g1 hb2 (by omega)
  replace g2 := below_cell g2 hb2 (by omega)
  replace k0 := below_cell k0 hb2 (by omega)
  replace k1 := below_cell k1 hb2 (by omega)
  replace k2 := below_cell k2 hb2 (by omega)
  clear hb2
  cases B with
  | false =>
    have hfin : Hid (F = false) := hidI (by rw [hFe.out]; simp)
    replace hFe := hidI hFe
    replace hB := hidI hB
    go_wp2
    go_ret
    exact ⟨ret_bool hfin.out.symm, hb12.out⟩
  | true =>
  have hcl := hsub2.out w2 hb12.out
  go_wp2_with fail
  refine hcl.mono ?_
  rintro e wB ⟨rfl, hbB⟩
  clear hcl
  have hb1B := hidI (hb12.out.trans (hbB.mono hb12.out.size))
  have hsB := hbB.size
  replace g0 := below_cell g0 hbB (by omega)
  replace g1 := below_cell g1 hbB (by omega)
  replace g2 := below_cell g2 hbB (by omega)
  replace k0 := below_cell k0 hbB (by omega)
  replace k1 := below_cell k1 hbB (by omega)
  replace k2 := below_cell k2 hbB (by omega)
  clear hbB
  cases C with
  | false =>
    have hfin : Hid (F = false) := hidI (by rw [hFe.out]; simp)
    replace hFe := hidI hFe
    replace hC := hidI hC
    replace hB := hidI hB
    go_wp2
    go_ret
    exact ⟨ret_bool hfin.out.symm, hb1B.out⟩
  | true =>
  by_cases hrr : r = r'
  case neg =>
    have t1 : (r != r') = true := by rw [bne_iff_ne]; exact hrr
    have hfin : Hid (F = false) := hidI (by rw [hFe.out, decide_eq_false hrr]; simp)
    replace hFe := hidI hFe
    replace hC := hidI hC
    replace hB := hidI hB
    replace hrr := hidI hrr
    go_wp2
    go_ret
    exact ⟨ret_bool hfin.out.symm, hb1B.out⟩
  have t1 : (r != r') = false := by rw [bne_eq_false_iff_eq]; exact hrr
  have hFm : F = morB (letsN r.toNat) ea eb := by rw [hFe.out, decide_eq_true hrr]; simp
  have hca : isCo r s ea = true := hB.out.symm
  have hla := co_lim hca
  have hE := endsIn_of hla.1
  have hnl := nx_lt (co_parts hca).1
  obtain ⟨rN, rfl⟩ : ∃ rN : Nat, r = (rN : Int) := ⟨r.toNat, by omega⟩
  obtain ⟨sN, rfl⟩ : ∃ sN : Nat, s = (sN : Int) := ⟨s.toNat, by omega⟩
  rw [Int.toNat_natCast] at hFm hnl
  have hs40 : 1 ≤ sN ∧ sN ≤ 40 := by omega
  have hr3 : 1 ≤ rN ∧ rN ≤ 3 := by omega
  obtain ⟨L, hL⟩ : ∃ L, L = letsN rN := ⟨_, rfl⟩
  have hlets := fun W => specLets W rN (by omega)
  have hLl : L.length ≤ 6 := by rw [hL, letsN_length]; omega
  have hLin : ∀ l ∈ L, -3 ≤ l ∧ l ≤ 3 := fun l hl => by rw [hL] at hl; have := letsN_in rN l hl; omega
  rw [← hL] at hlets hFm
  replace hFm := hidI hFm
  replace hFe := hidI hFe
  replace hC := hidI hC
  replace hB := hidI hB
  replace hrr := hidI hrr
  replace hca := hidI hca
  replace hla := hidI hla
  replace hE := hidI hE
  replace hnl := hidI hnl
  replace hL := hidI hL
  replace hlets := hidI hlets
  replace hLin := hidI hLin
  obtain ⟨i0, hj, hz0, hz1, hz2⟩ := info_parts infoInt
  obtain ⟨P, hP⟩ : ∃ P, P = wB.heap.size := ⟨_, rfl⟩
  have hPw : w.heap.size + 1 < P := by omega
  go_wp2_with (at_make; go_must (refine wpList_make_full _ rfl _ _ 33 rfl wB.heap.size 3 i0 (.int .i64 0) 1 Try.underlying33 hj hz0 hz1 .i64 .i64 _ _ sN rfl rfl rfl rfl ?c1 ?c2 ?c3 ?_))
  case c1 => rw [hz2]; omega
  case c2 => unfold maxLen; omega
  case c3 => exact Nat.le_refl _
  intro w3 hown hgw
  rw [made_ints] at hown
  have hb3 : Below wB.heap.size wB w3 := (Below.refl wB.heap.size wB).grown hgw (Nat.le_refl _) (by intro k hk; cases hk)
  have hpl : plN sN [] 0 = List.replicate sN 0 := rfl
  obtain ⟨him3, _, _⟩ := ImAt.of_row (im := List.replicate sN 0) (hpl ▸ hown)
  clear hgw hj hz0 hz1 hz2 hown hpl
  rw [← hP] at hb3 him3 ⊢
  have hP3 := him3.lt
  obtain ⟨w4, hw4⟩ : ∃ z, z = w3.alloc (.cells #[.int .i64 0] 3) := ⟨_, rfl⟩
  have hb4 : Below w3.heap.size w3 w4 := by rw [hw4]; exact (Below.refl _ _).alloc (Nat.le_refl _) _
  have hown4 : OwnsI w4 w3.heap.size (.slice (some ⟨w3.heap.size, 0, none⟩) 1 1) [0] := by rw [hw4]; exact World.ownsRow_lit w3 #[.int .i64 0] 1 (by omega) (by unfold maxLen; omega) rfl
  have hs4 : w3.heap.size < w4.heap.size := by rw [hw4]; simp
  have hb34 := hb3.trans (hb4.mono (by omega))
  have e0 := below_cell g0 hb34 (by omega)
  have hlw := hlets.out w4
  replace hP := hidI hP
  go_upto_region 5 with fail
  rw [← hw4]
  replace hw4 := hidI hw4
  go_wp2_with fail
  refine hlw.mono ?_
  rintro e w5 ⟨lv, rfl, hlr, hb5⟩
  clear hlw e0
  have hs5 := hb5.size
  obtain ⟨al, ml, cl, rfl⟩ : ∃ a m c, lv = Value.slice a m c := by
    obtain ⟨_, ⟨h1, _⟩ | ⟨g, off, cap, cur, h1, _⟩⟩ := hlr <;> exact ⟨_, _, _, h1⟩
  have hml : ml = L.length := by
    obtain ⟨_, ⟨h1, h2⟩ | ⟨g, off, cap, cur, h1, _⟩⟩ := hlr
    · cases h1; rw [h2]; rfl
    · cases h1; rfl
  obtain ⟨base, hbase⟩ : ∃ z, z = w3.heap.size := ⟨_, rfl⟩
  obtain ⟨lo, hlo⟩ : ∃ z, z = w4.heap.size := ⟨_, rfl⟩
  obtain ⟨hi, hhi⟩ : ∃ z, z = w5.heap.size := ⟨_, rfl⟩
  rw [← hlo, ← hhi] at hlr
  have hPlo : P < lo := by omega
  have hPb : P < base := by omega
  have hst0 : Hid (InSt w5 P base lo hi (.slice (some ⟨base, 0, none⟩) 1 1) [0] (.slice al ml cl) L (List.replicate sN 0)) := hidI
    ⟨⟨by rw [hbase]; exact ownI_other hown4 (fun k hk => hb5.block k (World.ownsRow.lt hown4 k hk).2), hlr, by omega, fun k hk => by
      have : base = k := by simpa [Value.ownBlock] using hk
      left; omega⟩, (him3.keep (hb4.block P hP3)).keep (hb5.block P (by omega)), hPb, by omega⟩
  have hmd0 : Hid (MdSt L ea eb (sN : Int) [0] 0 [] (List.replicate sN 0)) := hidI (by
    have := MdSt.start (L := L) (ea := ea) (eb := eb) (s := (sN : Int)) (by omega)
    rw [Int.toNat_natCast] at this
    exact this)
  have hk5 : Hid (Below P wB w5) := hidI (hb34.trans (hb5.mono (by omega)))
  have hml6 : ml ≤ 6 := by omega
  rw [← hbase]
  replace hml := hidI hml
  replace hbase := hidI hbase
  replace hlo := hidI hlo
  replace hhi := hidI hhi
  replace him3 := hidI him3
  replace hown4 := hidI hown4
  replace hb3 := hidI hb3
  replace hb4 := hidI hb4
  replace hb5 := hidI hb5
  replace hb34 := hidI hb34
  clear hlr
  go_wp2
  go_loopg [6, 8, 9, 10, 11] 40 (fun gg o iv_ kv_ xv_ yv_ wr => ∃ (i : Nat) (seen im : List Int), i + gg = 40 ∧ iv_ = .int .i64 i ∧ Hid (InSt wr P base lo hi o seen (.slice al ml cl) L im) ∧ Hid (MdSt L ea eb (sN : Int) seen i [] im) ∧ Hid (i ≤ seen.length) ∧ Hid (Below P wB wr))
  case atStart => exact ⟨0, [0], List.replicate sN 0, rfl, rfl, hst0, hmd0, hidI (Nat.zero_le _), hk5⟩
  case round =>
    clear hst0 hmd0 hk5
    obtain ⟨i, seen, im, hi40, rfl, hst, hmd, hil, hb⟩ := hrel
    have hsl : seen.length ≤ sN := by have := hmd.out.rng.len; omega
    obtain ⟨p, hp⟩ : ∃ p, p = seen.length := ⟨_, rfl⟩
    have hipl : i ≤ p := by have := hil.out; omega
    obtain ⟨og, oc, hov⟩ : ∃ g c, u6 = Value.slice g p c := by
      rw [hp]
      obtain ⟨h1, h2 | ⟨g, cap, cur, e, _⟩⟩ := hst.out.co.1
      · exact ⟨none, 0, by rw [h2.1, h2.2]⟩
      · exact ⟨_, _, e⟩
    subst hov
    by_cases hlt : i < p
    · have hii : (i : Int) < (p : Int) := by omega
      have hmd0 : Hid (MdSt L ea eb (sN : Int) seen i (L.take 0) im) := hmd
      have hil0 : Hid (i < seen.length) := hidI (by omega)
      replace hp := hidI hp
      replace hi40 := hidI hi40
      clear hmd
      go_wp2
      go_loopg [6, 9, 10, 11] ml (fun gg o kv_ xv_ yv_ wr => ∃ (k : Nat) (seen im : List Int), k + gg = ml ∧ kv_ = .int .i64 k ∧ Hid (InSt wr P base lo hi o seen (.slice al ml cl) L im) ∧ Hid (MdSt L ea eb (sN : Int) seen i (L.take k) im) ∧ Hid (i < seen.length) ∧ Hid (Below P wB wr))
      case atStart => exact ⟨0, seen, im, by omega, rfl, hst, hmd0, hil0, hb⟩
      case round =>
        clear hst hmd0 hil0 hb
        obtain ⟨k, seen, im, hk8, rfl, hst, hmd, hil, hb⟩ := hrel
        have hsl : seen.length ≤ sN := by have := hmd.out.rng.len; omega
        obtain ⟨q, hq⟩ : ∃ p, p = seen.length := ⟨_, rfl⟩
        have hiq : i < q := by have := hil.out; omega
        have hq40 : q ≤ 40 := by omega
        obtain ⟨og, oc, hov⟩ : ∃ g c, u6 = Value.slice g q c := by
          rw [hq]
          obtain ⟨h1, h2 | ⟨g, cap, cur, e, _⟩⟩ := hst.out.co.1
          · exact ⟨none, 0, by rw [h2.1, h2.2]⟩
          · exact ⟨_, _, e⟩
        subst hov
        by_cases hlt2 : k < ml
        · have hki : (k : Int) < (ml : Int) := by omega
          have hii : (i : Int) < (q : Int) := by omega
          have hwrs := hb.out.size
          have hPr := hst.out.im.lt
          have hrw := (hst.out.co.1.row (by omega)).read
          obtain ⟨ob, ooff, hob, hobB, c3⟩ := hrw.at2 i (by omega)
          subst hob
          have hlrd := hst.out.co.2.1.read
          obtain ⟨lb, loff, hlb, hlB, c4⟩ := hlrd.at2 k (by have := hml.out; omega)
          subst hlb
          have hhiw := hst.out.co.2.2.1
          have hum : seen.getD i 0 ∈ seen := mem_getI.2 ⟨i, by omega, rfl⟩
          have hub := hmd.out.rng.2 _ hum
          obtain ⟨uN, huN⟩ : ∃ uN : Nat, seen.getD i 0 = (uN : Int) := ⟨(seen.getD i 0).toNat, by omega⟩
          have hus : uN < sN := by rw [huN] at hub; omega
          rw [huN] at c3
          obtain ⟨z, hz⟩ : ∃ z, z = L.getD k 0 := ⟨_, rfl⟩
          rw [← hz] at c4
          have hzm : z ∈ L := by
            have hkL : k < L.length := by have := hml.out; omega
            rw [hz, List.getD_eq_getElem?_getD, List.getElem?_eq_getElem hkL]
            exact List.getElem_mem hkL
          have hzb := hLin.out z hzm
          have htk : L.take (k + 1) = L.take k ++ [z] := by rw [hz]; exact take_getM (by have := hml.out; omega)
          have hilen := hmd.out.len
          have q0 := below_cell g0 hb.out (by omega)
          have q1 := below_cell g1 hb.out (by omega)
          have q2 := below_cell g2 hb.out (by omega)
          have r0 := below_cell k0 hb.out (by omega)
          have r1 := below_cell k1 hb.out (by omega)
          have r2 := below_cell k2 hb.out (by omega)
          obtain ⟨wd, hwd⟩ : ∃ z, z = wr.drew := ⟨_, rfl⟩
          have hbd : Below wr.heap.size wr wd := by rw [hwd]; exact below_dn (Below.refl _ _) 1
          have hsd := hbd.size
          replace q0 := below_cell q0 hbd (by omega)
          replace q1 := below_cell q1 hbd (by omega)
          replace q2 := below_cell q2 hbd (by omega)
          replace r0 := below_cell r0 hbd (by omega)
          replace r1 := below_cell r1 hbd (by omega)
          replace r2 := below_cell r2 hbd (by omega)
          replace c3 := below_cell c3 hbd hobB
          replace c4 := below_cell c4 hbd (by omega)
          have hstd : Hid (InSt wd P base lo hi (.slice (some ⟨ob, ooff, none⟩) q oc) seen (.slice (some ⟨lb, loff, none⟩) ml cl) L im) := hidI (hst.out.below hbd)
          have hbwd := hidI (hb.out.trans (hbd.mono (by omega)))
          have hbwd0 := hidI (hb1B.out.trans (hbwd.out.mono (by have := hP.out; have := hb1B.out.size; omega)))
          have hcA := hnextA.out wd (uN : Int) z hbwd0.out
          have hyl := hnl.out (uN : Int) z hzb
          obtain ⟨y, hy⟩ : ∃ y, y = nxV ea (uN : Int) z := ⟨_, rfl⟩
          rw [← hy] at hcA hyl
          replace hwd := hidI hwd
          replace hq := hidI hq
          replace hk8 := hidI hk8
          replace huN := hidI huN
          replace hub := hidI hub
          replace hum := hidI hum
          replace hilen := hidI hilen
          replace hy := hidI hy
          replace hz := hidI hz
          replace hyl := hidI hyl
          replace htk := hidI htk
          clear hst hb hrw hlrd hbd
          go_wp2
          refine hideQ (fun _ _ d _ _ h => by cases d <;> exact h) (fun Q' hnorm hpan => ?_)
          refine wp_region_held_drew (S := (fun W0 => W0.cell? ⟨w.heap.size, 0, none⟩ = some (.int .i64 (rN : Int)) ∧ W0.cell? ⟨w.heap.size, 1, none⟩ = some (.int .i64 (sN : Int)) ∧ W0.cell? ⟨w.heap.size, 2, none⟩ = some (.slice a n cap) ∧ W0.cell? ⟨ob, ooff + i, none⟩ = some (.int .i64 (uN : Int)) ∧ W0.cell? ⟨lb, loff + k, none⟩ = some (.int .i64 z))) (by kernel_rfl) ?_ (fun hHeld => ?_)
          · try dsimp only
            first | ((repeat' apply And.intro) <;> assumption) | (rw [← hwd.out]; ((repeat' apply And.intro) <;> assumption))
          rw [← hwd.out] at hHeld ⊢
          refine tk 0 46 ?_
          refine tk 1 47 ?_
          refine tk 2 48 ?_
          refine tk 3 49 ?_
          refine tk 4 50 ?_
          refine tk 5 51 ?_
          refine tk 6 52 ?_
          refine tk 7 53 ?_
          refine tk 8 54 ?_
          refine rd 9 (fun K hK => ?_)
          rw [if_pos (by rfl)]
          go_simp
          refine hcA.mono ?_
          rintro e w6 ⟨rfl, hb6⟩
          have x0 := below_cell q0 hb6 (by omega)
          have x1 := below_cell q1 hb6 (by omega)
          have x2 := below_cell q2 hb6 (by omega)
          have x3 := below_cell c3 hb6 (by omega)
          have x4 := below_cell c4 hb6 (by omega)
          refine hK.out _ _ ?_ (fun hHeld => ?_)
          · try dsimp only
            first | ((repeat' apply And.intro) <;> assumption) | (rw [← hwd.out]; ((repeat' apply And.intro) <;> assumption))
          clear hK
          try simp only [Act.put, List.setIfInBounds_toArray, List.set_cons_zero, List.set_cons_succ]
          refine tk 10 10 ?_
          refine wpAnyH_done (by kernel_rfl) ?_ _
          refine hnorm _ _ ?_
          clear hnorm hpan
          repeat clear hHeld
          try simp only [Exit.then]
          have hst6 := hidI (hstd.out.below hb6)
          have hb06 := hidI (hbwd.out.trans (hb6.mono (by omega)))
          have hs6 := hb6.size
          have p0 := below_cell r0 hb6 (by omega)
          have p1 := below_cell r1 hb6 (by omega)
          have p2 := below_cell r2 hb6 (by omega)
          clear hb6 q0 q1 q2 r0 r1 r2 c3 c4 x0 x1 x2
          by_cases hy0 : 0 ≤ y
          case neg =>
            have hnx : Hid (MdSt L ea eb (sN : Int) seen i (L.take (k + 1)) im) := hidI (by rw [htk.out]; exact hmd.out.skip (by rw [huN.out, ← hy.out]; omega))
            go_wp2
            go_roundg (ml - (k + 1))
            case rel => exact ⟨k + 1, seen, im, by have := hk8.out; omega, by go_num, hst6, hnx, hil, hb06⟩
            case measure => have := hk8.out; omega
          obtain ⟨xN, hxN⟩ : ∃ xN : Nat, y = (xN : Int) := ⟨y.toNat, by omega⟩
          have hxs : xN < sN := by have := hyl.out hy0; omega
          subst hxN
          obtain ⟨IV, hIVe⟩ : ∃ t, t = imF im (uN : Int) := ⟨_, rfl⟩
          have t4 := hst6.out.im.cell (i := uN) (by have := hilen.out; omega)
          rw [show im.getD uN 0 = IV by rw [hIVe]; unfold imF; rw [Int.toNat_natCast]] at t4
          have hP6 := hst6.out.im.lt
          obtain ⟨we, hwe⟩ : ∃ t, t = w6.drew := ⟨_, rfl⟩
          have hbe : Below w6.heap.size w6 we := by rw [hwe]; exact below_dn (Below.refl _ _) 1
          have hse := hbe.size
          have t0 := below_cell p0 hbe (by omega)
          have t1 := below_cell p1 hbe (by omega)
          have t2 := below_cell p2 hbe (by omega)
          have t3 := below_cell x3 hbe (by omega)
          replace t4 := below_cell t4 hbe (by omega)
          have t5 := below_cell x4 hbe (by omega)
          have hste : Hid (InSt we P base lo hi (.slice (some ⟨ob, ooff, none⟩) q oc) seen (.slice (some ⟨lb, loff, none⟩) ml cl) L im) := hidI (hst6.out.below hbe)
          have hb0e := hidI (hb06.out.trans (hbe.mono (by omega)))
          have hb0e0 := hidI (hb1B.out.trans (hb0e.out.mono (by have := hP.out; have := hb1B.out.size; omega)))
          have hcB := hnextB.out we IV z hb0e0.out
          obtain ⟨y2, hy2⟩ : ∃ t, t = nxV eb IV z := ⟨_, rfl⟩
          rw [← hy2] at hcB
          have hy2i : Hid (nxV eb (imF im (seen.getD i 0)) z = y2) := hidI (by rw [huN.out, ← hIVe, ← hy2])
          have hxi : Hid (nxV ea (seen.getD i 0) z = (xN : Int)) := hidI (by rw [huN.out, ← hy.out])
          replace hwe := hidI hwe
          replace hIVe := hidI hIVe
          replace hy2 := hidI hy2
          have hxn0 : ¬ (xN : Int) < 0 := by omega
          clear hst6 hbe p0 p1 p2 x3 x4
          go_upto_region 14 with fail
          refine hideQ (fun _ _ d _ _ h => by cases d <;> exact h) (fun Q' hnorm hpan => ?_)
          refine wp_region_held_drew (S := (fun W0 => W0.cell? ⟨w.heap.size + 1, 0, none⟩ = some (.int .i64 r') ∧ W0.cell? ⟨w.heap.size + 1, 1, none⟩ = some (.int .i64 s') ∧ W0.cell? ⟨w.heap.size + 1, 2, none⟩ = some (.slice a' n' cap') ∧ W0.cell? ⟨ob, ooff + i, none⟩ = some (.int .i64 (uN : Int)) ∧ W0.cell? ⟨P, uN, none⟩ = some (.int .i64 IV) ∧ W0.cell? ⟨lb, loff + k, none⟩ = some (.int .i64 z))) (by kernel_rfl) ?_ (fun hHeld => ?_)
          · try dsimp only
            first | ((repeat' apply And.intro) <;> assumption) | (rw [← hwe.out]; ((repeat' apply And.intro) <;> assumption))
          rw [← hwe.out] at hHeld ⊢
          refine tk 0 58 ?_
          refine tk 1 59 ?_
          refine tk 2 60 ?_
          refine tk 3 61 ?_
          refine tk 4 62 ?_
          refine tk 5 63 ?_
          refine tk 6 64 ?_
          refine tk 7 65 ?_
          refine tk 8 66 ?_
          refine tk 9 67 ?_
          refine tk 10 68 ?_
          refine tk 11 69 ?_
          refine rd 12 (fun K hK => ?_)
          rw [if_pos (by rfl)]
          go_simp
          refine hcB.mono ?_
          rintro e w8 ⟨rfl, hb8⟩
          replace t0 := below_cell t0 hb8 (by omega)
          replace t1 := below_cell t1 hb8 (by omega)
          replace t2 := below_cell t2 hb8 (by omega)
          replace t3 := below_cell t3 hb8 (by omega)
          replace t4 := below_cell t4 hb8 (by omega)
          replace t5 := below_cell t5 hb8 (by omega)
          refine hK.out _ _ ?_ (fun hHeld => ?_)
          · try dsimp only
            first | ((repeat' apply And.intro) <;> assumption) | (rw [← hwe.out]; ((repeat' apply And.intro) <;> assumption))
          clear hK
          try simp only [Act.put, List.setIfInBounds_toArray, List.set_cons_zero, List.set_cons_succ]
          refine tk 13 11 ?_
          refine wpAnyH_done (by kernel_rfl) ?_ _
          refine hnorm _ _ ?_
          clear hnorm hpan
          repeat clear hHeld
          try simp only [Exit.then]
          have hst8 := hidI (hste.out.below hb8)
          have hb08 := hidI (hb0e.out.trans (hb8.mono (by omega)))
          have hs8 := hb8.size
          clear hb8 t0 t1 t2 t3 t4 t5
          by_cases hy20 : 0 ≤ y2
          case neg =>
            have hfin : Hid (F = false) := hidI (by rw [hFm.out]; exact hmd.out.none hil.out hzm (by rw [hxi.out]; omega) (by rw [hy2i.out]; omega))
            have hbz := hidI (hb1B.out.trans (hb08.out.mono (by have := hP.out; have := hb1B.out.size; omega)))
            go_wp2
            go_ret
            exact ⟨ret_bool hfin.out.symm, hbz.out⟩
          have hhas := hasL_any w8 w8.heap.size (.slice (some ⟨ob, ooff, none⟩) q oc) seen (xN : Int) (hst8.out.co.1.row (by omega)).read (by omega)
          have hP8 := hst8.out.im.lt
          by_cases hm : (xN : Int) ∈ seen
          · rw [show decide ((xN : Int) ∈ seen) = true from decide_eq_true hm] at hhas
            have cx := hst8.out.im.cell (i := xN) (by have := hilen.out; omega)
            obtain ⟨J, hJ⟩ : ∃ t, t = imF im (xN : Int) := ⟨_, rfl⟩
            rw [show im.getD xN 0 = J by rw [hJ]; unfold imF; rw [Int.toNat_natCast]] at cx
            by_cases hJe : J = y2
            · have b1 : (J != y2) = false := by rw [bne_eq_false_iff_eq]; exact hJe
              have hnx : Hid (MdSt L ea eb (sN : Int) seen i (L.take (k + 1)) im) := hidI (by rw [htk.out]; exact hmd.out.same (by rw [hy2i.out]; exact hy20) (by rw [hxi.out]; exact hm) (by rw [hxi.out, hy2i.out, ← hJ]; exact hJe))
              replace hm := hidI hm
              replace hJe := hidI hJe
              replace hJ := hidI hJ
              go_wp2_with fail
              refine hhas.mono ?_
              rintro e w9 ⟨rfl, hw9⟩
              replace hw9 := hw9.symm
              subst hw9
              clear hhas
              go_wp2
              go_roundg (ml - (k + 1))
              case rel => exact ⟨k + 1, seen, im, by have := hk8.out; omega, by go_num, hst8, hnx, hil, hb08⟩
              case measure => have := hk8.out; omega
            · have b1 : (J != y2) = true := by rw [bne_iff_ne]; exact hJe
              have hfin : Hid (F = false) := hidI (by rw [hFm.out]; exact hmd.out.clash hil.out hzm (by rw [hxi.out]; omega) (by rw [hxi.out]; exact hm) (by rw [hxi.out, hy2i.out, ← hJ]; exact hJe))
              have hbz := hidI (hb1B.out.trans (hb08.out.mono (by have := hP.out; have := hb1B.out.size; omega)))
              replace hm := hidI hm
              replace hJe := hidI hJe
              replace hJ := hidI hJ
              go_wp2_with fail
              refine hhas.mono ?_
              rintro e w9 ⟨rfl, hw9⟩
              replace hw9 := hw9.symm
              subst hw9
              clear hhas
              go_wp2
              go_ret
              exact ⟨ret_bool hfin.out.symm, hbz.out⟩
          · rw [show decide ((xN : Int) ∈ seen) = false from decide_eq_false hm] at hhas
            have hgr := hmd.out.grow (l := z) hil.out hzm (by rw [hxi.out]; omega) (by rw [hxi.out]; omega) (by rw [hy2i.out]; exact hy20) (by rw [hxi.out]; exact hm)
            rw [hxi.out, hy2i.out, Int.toNat_natCast, ← htk.out] at hgr
            have hown8 := hst8.out.co.1
            have hbs8 := hst8.out.bs
            replace hgr := hidI hgr
            replace hm := hidI hm
            go_wp2_with fail
            refine hhas.mono ?_
            rintro e w9 ⟨rfl, hw9⟩
            replace hw9 := hw9.symm
            subst hw9
            clear hhas
            go_wp2_with (at_builtin; go_must (refine wpList_pushI_by rfl _ _ rfl base (.slice (some ⟨ob, ooff, none⟩) q oc) seen _ rfl rfl hown8 (by have := hq.out; omega) hbs8 ?_))
            intro v9 w9 hown9 hg9 hloc9
            have hst9 := hst8.out.push hown9 hg9 hloc9
            have hbn : Below P w8 w9 := (((Below.refl base w8).alloc hbs8 _).grown hg9 (by simp; omega) (fun k hk => (World.ownsRow.lt hown8 k hk).1)).mono (by omega)
            have cx := hst9.im.cell (i := xN) (by have := hilen.out; omega)
            have fx := fun j => hst9.im.frozen j
            obtain ⟨w10, hw10⟩ : ∃ t, t = w9.setCell ⟨P, xN, none⟩ (.int .i64 y2) := ⟨_, rfl⟩
            have hst10 : Hid (InSt w10 P base lo hi v9 (seen ++ [(xN : Int)]) (.slice (some ⟨lb, loff, none⟩) ml cl) L (im.set xN y2)) := hidI (by rw [hw10]; exact hst9.set hPlo xN y2)
            have hb010 : Hid (Below P wB w10) := hidI (by rw [hw10]; exact (hb08.out.trans hbn).setCell (p := ⟨P, xN, none⟩) (Nat.le_refl P) _)
            have hil10 : Hid (i < (seen ++ [(xN : Int)]).length) := hidI (by rw [List.length_append]; have := hil.out; omega)
            replace hst9 := hidI hst9
            clear hown9 hg9 hloc9 hbn hown8
            go_wp2
            rw [← hw10]
            replace hw10 := hidI hw10
            go_roundg (ml - (k + 1))
            case rel => exact ⟨k + 1, seen ++ [(xN : Int)], im.set xN y2, by have := hk8.out; omega, by go_num, hst10, hgr, hil10, hb010⟩
            case measure => have := hk8.out; omega
        · obtain rfl : k = ml := by omega
          have hki : ¬ (k : Int) < (k : Int) := by omega
          have hnx : Hid (MdSt L ea eb (sN : Int) seen (i + 1) [] im) := hidI (by
            have h9 := hmd.out
            rw [List.take_of_length_le (by have := hml.out; omega)] at h9
            exact h9.next)
          have hil9 : Hid (i + 1 ≤ seen.length) := hidI (by have := hil.out; omega)
          replace hk8 := hidI hk8
          replace hq := hidI hq
          go_wp2
          go_roundg (40 - (i + 1))
          case rel => exact ⟨i + 1, seen, im, by have := hi40.out; omega, by go_num, hst, hnx, hil9, hb⟩
          case measure => have := hi40.out; omega
    · obtain rfl : i = p := by omega
      have hii : ¬ (i : Int) < (i : Int) := by omega
      have hfin : Hid (F = true) := hidI (by rw [hFm.out]; exact hmd.out.done (by omega))
      have hbz := hidI (hb1B.out.trans (hb.out.mono (by have := hP.out; have := hb1B.out.size; omega)))
      replace hp := hidI hp
      replace hi40 := hidI hi40
      go_wp2
      go_ret
      exact ⟨ret_bool hfin.out.symm, hbz.out⟩
end Go.Proofs.Ytjnhhhnehkmfmaa
