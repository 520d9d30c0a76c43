import Derived.Deep.LoopGhost
import Derived.Deep.Cut
import Derived.Test.YtpjlamnjiilgbaaGreatJ21Ba
import Derived.Test.YtpjlamnjiilgbaaGreatJ7Ba
namespace Go.Proofs.YtpjlamnjiilgbaaGreat
open Go.RowKit Go.Maps
set_option linter.unusedVariables false
set_option linter.unusedSimpArgs false
theorem layE {w : World} {base g cap n i : Nat} {C : List Ed} {f l t : Int} (h : OwnsE w base (.slice (some ⟨g, 0, none⟩) n cap) C) (hn : C.length = n) (hi : i < n) :
 OwnsE (((w.setCell ⟨g, i * 3, none⟩ (.int .i64 f)).setCell ⟨g, i * 3 + 1, none⟩ (.int .i64 l)).setCell ⟨g, i * 3 + 2, none⟩ (.int .i64 t)) base (.slice (some ⟨g, 0, none⟩) n cap) (C.set i (f, l, t)) := by
 subst hn
 have hst := OwnsS.put (OwnsS.put (OwnsS.put h (i * 3) f) (i * 3 + 1) l) (i * 3 + 2) t
 have hfs := flatE_set C i (f, l, t) hi
 simp only at hfs
 rw [hfs] at hst
 unfold OwnsE
 rw [List.length_set]
 exact hst
structure InTr (w : World) (base B : Nat) (tv : Value) (T : List Ed) : Prop where
 cell : w.cell? ⟨B, 0, none⟩ = some tv
 read : ReadE base w tv T
 lt : B < base
 le : base ≤ w.heap.size
theorem InTr.below {w w' : World} {base B : Nat} {tv : Value} {T : List Ed} (h : InTr w base B tv T) (hb : Below base w w') : InTr w' base B tv T :=
 ⟨below_cell h.cell hb h.lt, h.read.below hb, h.lt, Nat.le_trans h.le hb.size⟩
set_option maxHeartbeats 1600000 in
theorem inT_any (w : World) (base B : Nat) (tv : Value) (T : List Ed) (f l t : Int) (h : InTr w base B tv T) (hl : T.length ≤ 100000) :
 Calls Tryz.prog 92 #[.agg #[.int .i64 f, .int .i64 l, .int .i64 t], .pointer (some ⟨B, 0, none⟩)] w (LwBool w (decide ((f, l, t) ∈ T))) := by
 obtain ⟨w1, hw1⟩ := exq (w.alloc (.cells #[.int .i64 f, .int .i64 l, .int .i64 t] 72))
 have hb1 : Below w.heap.size w w1 := by rw [hw1]; exact (Below.refl _ _).alloc (Nat.le_refl _) _
 obtain ⟨g0, g1, g2⟩ := box3 hw1
 have h1 := h.below (hb1.mono h.le)
 have cB := h1.cell
 have hc := hasE_any w1 base tv T (f, l, t) h1.le h1.read (by omega)
 obtain ⟨a, c, rfl, _⟩ := h.read.form
 obtain ⟨m, hm⟩ := exq T.length
 rw [← hm] at hc cB
 obtain ⟨q, hq⟩ := exq (decide ((f, l, t) ∈ T))
 rw [← hq] at hc ⊢
 replace hq := hidI hq
 replace hm := hidI hm
 replace h := hidI h
 replace h1 := hidI h1
 have hw1' := hidI hw1.symm
 replace hw1 := hidI hw1
 go_enter Tryz.func92, Tryz.ntmps92
 go_upto_region 1 with fail
 rw [hw1'.out]
 go_wp2_with fail
 refine hc.mono ?_
 rintro e w2 ⟨rfl, hb2⟩
 have hr := hb1.trans (hb2.mono hb1.size)
 clear hc cB g0 g1 g2 hb2
 go_wp2
 go_ret
 exact ⟨rfl, hr⟩
def LwIdxE (w : World) (F T : List Ed) (e : Ending) (w' : World) : Prop :=
 Below w.heap.size w w' ∧ ((∃ k : Nat, k < F.length ∧ e = .returned (.int .i64 k) ∧ F.getD k e0 ∈ T ∧ ∀ j, j < k → F.getD j e0 ∉ T) ∨ (e = .returned (.int .i64 (-1)) ∧ ∀ j, j < F.length → F.getD j e0 ∉ T))
set_option maxHeartbeats 3200000 in
theorem indexE_any (w : World) (base B : Nat) (tv vF : Value) (F T : List Ed) (h : ReadE w.heap.size w vF F) (hl : F.length ≤ 100000) (hT : InTr w base B tv T) (hlT : T.length ≤ 100000) :
 Calls Tryz.prog 128 #[vF, .func (.func 92) #[] #[.pointer (some ⟨B, 0, none⟩)]] w (LwIdxE w F T) := by
 obtain ⟨a, cap, rfl, hnc⟩ := h.form
 obtain ⟨n, hn⟩ := exq F.length
 rw [← hn] at hl hnc ⊢
 rw [← hn] at h
 have hbase := hT.le
 have hpred := fun (W : World) (hW : Below w.heap.size w W) (f l t : Int) => inT_any W base B tv T f l t (hT.below (hW.mono hbase)) hlT
 replace hpred := hidI hpred
 replace hT := hidI hT
 replace hn := hidI hn
 replace h := hidI h
 go_enter Tryz.func128, Tryz.ntmps128
 go_wp2
 go_loopg [5, 8] n (fun g q i wr => ∃ k : Nat, k + g = n ∧ i = .int .i64 k ∧ Hid (∀ j, j < k → F.getD j e0 ∉ T) ∧ Hid (Below w.heap.size w wr))
 case atStart => exact ⟨0, by omega, rfl, hidI (fun j h => by omega), hidI (Below.refl _ _)⟩
 case round =>
  obtain ⟨k, hk, rfl, hp, hb⟩ := hrel
  by_cases hlt : k < n
  · have hki : (k : Int) < (n : Int) := by omega
    obtain ⟨b, off, rfl, hbl, c0, c1, c2⟩ := ReadE.at3 (h.out.below hb.out) k (by have := hn.out; omega)
    obtain ⟨f, l, t, hF⟩ : ∃ f l t, F.getD k e0 = (f, l, t) := ⟨_, _, _, rfl⟩
    rw [hF] at c0 c1 c2
    simp only at c0 c1 c2
    have hcall := hpred.out wr hb.out f l t
    by_cases hin : (f, l, t) ∈ T
    · rw [decide_eq_true hin] at hcall
      have hnow := hidI (show F.getD k e0 ∈ T by rw [hF]; exact hin)
      replace hF := hidI hF
      replace hin := hidI hin
      replace hk := hidI hk
      go_wp2_with fail
      refine hcall.mono ?_
      rintro e w3 ⟨rfl, hb3⟩
      have hbz := hb.out.trans (hb3.mono hb.out.size)
      clear hcall
      go_wp2
      go_ret
      exact ⟨hbz, .inl ⟨k, by have := hn.out; omega, rfl, hnow.out, hp.out⟩⟩
    · rw [decide_eq_false hin] at hcall
      have hnx : ∀ j, j < k + 1 → F.getD j e0 ∉ T := by
       intro j hj
       by_cases hjk : j = k
       · subst hjk; rw [hF]; exact hin
       · exact hp.out j (by omega)
      replace hnx := hidI hnx
      replace hF := hidI hF
      replace hin := hidI hin
      replace hk := hidI hk
      go_wp2_with fail
      refine hcall.mono ?_
      rintro e w3 ⟨rfl, hb3⟩
      have hbz := hidI (hb.out.trans (hb3.mono hb.out.size))
      clear hcall hb3
      go_wp2
      go_roundg (n - (k + 1))
      case rel => exact ⟨k + 1, by have := hk.out; omega, by go_num, hnx, hbz⟩
      case measure => have := hk.out; omega
  · obtain rfl : k = n := by omega
    have hki : ¬ (k : Int) < (k : Int) := by omega
    replace hk := hidI hk
    go_wp2
    go_ret
    exact ⟨hb.out, .inr ⟨rfl, by rw [← hn.out]; exact hp.out⟩⟩
def KeptSt (w wr : World) (base g cap : Nat) (es T : List Ed) (j i : Nat) : Prop :=
 ∃ C : List Ed, C.length = es.length ∧ OwnsE wr base (.slice (some ⟨g, 0, none⟩) es.length cap) C ∧ C.take i = notT T (es.take j) ∧ (∀ q, j ≤ q → q < es.length → C.getD q e0 = es.getD q e0) ∧ Below base w wr
theorem KeptSt.later {w wr w' : World} {base g cap : Nat} {es T : List Ed} {j i : Nat} (h : KeptSt w wr base g cap es T j i) (hb : Below wr.heap.size wr w') (hB : base ≤ wr.heap.size) : KeptSt w w' base g cap es T j i := by
 obtain ⟨C, h1, h2, h3, h4, h5⟩ := h
 exact ⟨C, h1, OwnsS.later h2 hb (Nat.le_refl _), h3, h4, h5.trans (hb.mono hB)⟩
theorem KeptSt.skip {w wr : World} {base g cap : Nat} {es T : List Ed} {j i : Nat} (h : KeptSt w wr base g cap es T j i) (hj : j < es.length) (hin : es.getD j e0 ∈ T) : KeptSt w wr base g cap es T (j + 1) i := by
 obtain ⟨C, h1, h2, h3, h4, h5⟩ := h
 exact ⟨C, h1, h2, by rw [notT_next hj, if_neg (fun q => q hin), List.append_nil]; exact h3, fun q hq => h4 q (by omega), h5⟩
theorem KeptSt.put {w wr : World} {base g cap : Nat} {es T : List Ed} {j i : Nat} {f l t : Int} (h : KeptSt w wr base g cap es T j i) (hj : j < es.length) (hij : i < j) (he : es.getD j e0 = (f, l, t)) (hin : (f, l, t) ∉ T) (hg : base ≤ g) :
 KeptSt w (((wr.setCell ⟨g, i * 3, none⟩ (.int .i64 f)).setCell ⟨g, i * 3 + 1, none⟩ (.int .i64 l)).setCell ⟨g, i * 3 + 2, none⟩ (.int .i64 t)) base g cap es T (j + 1) (i + 1) := by
 obtain ⟨C, h1, h2, h3, h4, h5⟩ := h
 refine ⟨C.set i (f, l, t), by rw [List.length_set, h1], layE h2 h1 (by omega), ?_, fun q hq hql => ?_, ?_⟩
 · rw [notT_next hj, he, if_pos hin, ← h3, List.take_add_one, List.getElem?_set_self (by omega), List.take_set_of_le (Nat.le_refl _)]; rfl
 · rw [List.getD_eq_getElem?_getD, List.getElem?_set_ne (by omega), ← List.getD_eq_getElem?_getD]
   exact h4 q (by omega) hql
 · exact ((h5.setCell (p := ⟨g, i * 3, none⟩) hg _).setCell (p := ⟨g, i * 3 + 1, none⟩) hg _).setCell (p := ⟨g, i * 3 + 2, none⟩) hg _
def DelRetE (w : World) (base : Nat) (es : List Ed) (e : Ending) (w' : World) : Prop := ∃ v, e = .returned v ∧ OwnsE w' base v es ∧ Below base w w'
set_option maxRecDepth 100000 in
set_option maxHeartbeats 6400000 in
theorem deleteE_any (w : World) (base B : Nat) (tv v : Value) (es T : List Ed) (hown : OwnsE w base v es) (hT : InTr w base B tv T) (hl : es.length ≤ 100000) (hlT : T.length ≤ 100000) :
 Calls Tryz.prog 90 #[v, .func (.func 92) #[] #[.pointer (some ⟨B, 0, none⟩)]] w (DelRetE w base (notT T es)) := by
 have hbase := hT.le
 have hrd : ReadE w.heap.size w v es := (OwnsS.row hown (by omega)).read
 have hix := indexE_any w base B tv v es T hrd hl hT hlT
 obtain ⟨av, cv, hv, hcap⟩ := hrd.form
 have hlt := World.ownsRow.lt hown
 obtain ⟨n, hn⟩ := exq es.length
 rw [← hn] at hv hl hcap
 subst hv
 obtain ⟨F, hF⟩ := exq (notT T es)
 rw [← hF]
 have hpred := fun (W : World) (hW : Below base w W) (f l t : Int) => inT_any W base B tv T f l t (hT.below hW) hlT
 have hall : (∀ j, j < es.length → es.getD j e0 ∉ T) → ∀ W, Below w.heap.size w W → DelRetE w base F (.returned (.slice av n cv)) W := fun q W hW => by
  rw [hF, notT_all q]
  exact ⟨_, rfl, OwnsS.later hown hW (Nat.le_refl _), hW.mono hbase⟩
 replace hall := hidI hall
 replace hpred := hidI hpred
 replace hF := hidI hF
 replace hn := hidI hn
 replace hT := hidI hT
 replace hlt := hidI hlt
 replace hrd := hidI hrd
 replace hown := hidI hown
 go_enter Tryz.func90, Tryz.ntmps90
 go_wp2_with fail
 refine hix.mono ?_
 rintro e w2 ⟨hb2, ⟨k0, hk0, rfl, hin0, hbef⟩ | ⟨rfl, hq⟩⟩
 case inr =>
  have hr := hidI (hall.out hq w2 hb2)
  clear hix hq
  go_wp2
  go_ret
  exact hr.out
 clear hix
 have hkn : k0 < n := by have := hn.out; omega
 obtain ⟨b, off, rfl, _, _⟩ := ReadE.at3 hrd.out k0 hk0
 obtain ⟨rfl, hg1⟩ : off = 0 ∧ base ≤ b := by
  obtain ⟨_, ⟨h1, _⟩ | ⟨g, cap, cur, h1, h2, _⟩⟩ := hown.out
  · cases h1
  · simp only [Value.slice.injEq, Option.some.injEq, Addr.mk.injEq, and_true] at h1
    exact ⟨h1.1.2, by rw [h1.1.1]; exact h2⟩
 have hst0 : Hid (KeptSt w w2 base b cv es T (k0 + 1) k0) := hidI (by
  refine ⟨es, rfl, hn.out ▸ OwnsS.later hown.out hb2 (Nat.le_refl _), ?_, fun _ _ _ => rfl, hb2.mono hbase⟩
  rw [notT_next hk0, if_neg (fun q => q hin0), List.append_nil, notT_all]
  intro j hj
  rw [List.length_take] at hj
  rw [List.getD_eq_getElem?_getD, List.getElem?_take, if_pos (by omega), ← List.getD_eq_getElem?_getD]
  exact hbef j (by omega))
 have hneg : ((k0 : Int) == -1) = false := beq_eq_false_iff_ne.2 (by omega)
 replace hin0 := hidI hin0
 replace hbef := hidI hbef
 replace hk0h := hidI hk0
 clear hk0 hb2
 go_wp2
 go_loopg [5, 6, 7] (n - (k0 + 1)) (fun gg s5 s6 s7 wr => ∃ i j : Nat, s5 = .int .i64 i ∧ s6 = .int .i64 j ∧ j + gg = n ∧ i < j ∧ Hid (KeptSt w wr base b cv es T j i))
 case atStart => exact ⟨k0, k0 + 1, rfl, by go_num, by omega, by omega, hst0⟩
 case round =>
  clear hst0
  obtain ⟨i, j, rfl, rfl, hj, hij, hst⟩ := hrel
  obtain ⟨C, hC1, hC2, hC3, hC4, hC5⟩ := hst.out
  rw [← hn.out] at hC1 hC2
  have hsz := hC5.size
  have hbr : base ≤ wr.heap.size := by omega
  by_cases hlj : j < n
  · have hji : (j : Int) < (n : Int) := by omega
    have hii : (i : Int) < (n : Int) := by omega
    obtain ⟨c0, c1, c2⟩ := hC2.at3 (i := j) (by omega)
    rw [hC4 j (Nat.le_refl _) (by have := hn.out; omega)] at c0 c1 c2
    obtain ⟨f, l, t, hF0⟩ : ∃ f l t, es.getD j e0 = (f, l, t) := ⟨_, _, _, rfl⟩
    rw [hF0] at c0 c1 c2
    simp only at c0 c1 c2
    obtain ⟨w4, hw4⟩ := exq (wr.alloc (.cells #[.int .i64 f, .int .i64 l, .int .i64 t] 72))
    have hb4 : Below wr.heap.size wr w4 := by rw [hw4]; exact (Below.refl _ _).alloc (Nat.le_refl _) _
    have hs4 : wr.heap.size < w4.heap.size := by rw [hw4]; simp
    obtain ⟨x0, x1, x2⟩ := box3 hw4
    have hst4 := hst.out.later hb4 hbr
    have hcall := hpred.out w4 (hC5.trans (hb4.mono hbr)) f l t
    have hb4s := hb4.size
    replace hw4h := hidI hw4.symm
    replace hw4 := hidI hw4
    replace hst4 := hidI hst4
    replace hj := hidI hj
    replace hF0 := hidI hF0
    clear hC1 hC2 hC3 hC4 hC5 hst hb4
    by_cases hin : (f, l, t) ∈ T
    · rw [decide_eq_true hin] at hcall
      replace hin := hidI hin
      go_upto_region 8 with fail
      rw [hw4h.out]
      go_wp2_with fail
      refine hcall.mono ?_
      rintro e w5 ⟨rfl, hb5⟩
      have hst5 := hidI ((hst4.out.later hb5 (by omega)).skip (by have := hn.out; omega) (by rw [hF0.out]; exact hin.out))
      clear hcall hb5 c0 c1 c2 x0 x1 x2
      go_wp2
      go_roundg (n - (j + 1))
      case rel => exact ⟨i, j + 1, rfl, by go_num, by omega, by omega, hst5⟩
      case measure => have := hj.out; omega
    · rw [decide_eq_false hin] at hcall
      replace hin := hidI hin
      go_upto_region 8 with fail
      rw [hw4h.out]
      go_wp2_with fail
      refine hcall.mono ?_
      rintro e w5 ⟨rfl, hb5⟩
      have hst5 := hst4.out.later hb5 (by omega)
      obtain ⟨C, hC1, hC2, hC3, hC4, hC5⟩ := id hst5
      rw [← hn.out] at hC1 hC2
      have hC9 := hC2
      rw [← hC1] at hC9
      replace x0 := below_cell x0 hb5 hs4
      replace x1 := below_cell x1 hb5 hs4
      replace x2 := below_cell x2 hb5 hs4
      obtain ⟨y0, y1, y2⟩ := hC2.at3 (i := i) (by omega)
      have z0 := World.ownsRow.frozenAt hC9 (i * 3)
      have z1 := World.ownsRow.frozenAt hC9 (i * 3 + 1)
      have z2 := World.ownsRow.frozenAt hC9 (i * 3 + 2)
      generalize (C.getD i e0).1 = v0 at y0
      generalize (C.getD i e0).2.1 = v1 at y1
      generalize (C.getD i e0).2.2 = v2 at y2
      have hst6 := hidI (hst5.put (by have := hn.out; omega) hij hF0.out hin.out hg1)
      clear hcall hb5 c0 c1 c2 hC1 hC2 hC3 hC4 hC5 hC9 hst5
      go_wp2
      go_roundg (n - (j + 1))
      case rel => exact ⟨i + 1, j + 1, by go_num, by go_num, by omega, by omega, hst6⟩
      case measure => have := hj.out; omega
  · obtain rfl : j = n := by omega
    have hji : ¬ (j : Int) < (j : Int) := by omega
    have hC9 := hC2
    rw [← hC1] at hC9
    have hcl : ∀ ty, (Builtin.clear_ #[24] ty #[.slice (some ⟨b, i * 3, none⟩) (j - i) (cv - i)]).run Tryz.prog wr = .ok (.tuple #[]) (wr.setCells b (i * 3) (List.replicate ((j - i) * 3) (.int .i64 0))) := fun ty =>
     clear_edges wr ty b (i * 3) (j - i) (cv - i) (by omega) (fun q hq => by
      rw [World.ownsRow.cellAt hC9 (i * 3 + q) (by omega), List.getElem?_eq_getElem (by rw [List.length_map, flatE_length]; omega)]; rfl) (fun q _ => World.ownsRow.frozenAt hC9 (i * 3 + q))
    have hfin0 := comp_fin (w := wr) (hC1 ▸ hC2) rfl (grownBy_drewN wr 0 b) (by omega) (show C.take i = F by rw [hC3, hF.out, hn.out, List.take_length]) (List.replicate ((j - i) * 3) (.int .i64 0))
    obtain ⟨h1, h2, h3⟩ := hfin0
    have hlen : F.length = i := by rw [← show C.take i = F by rw [hC3, hF.out, hn.out, List.take_length], List.length_take]; omega
    have hfin : DelRetE w base F (.returned (.slice (some ⟨b, 0, none⟩) i cv)) (wr.setCells b (i * 3) (List.replicate ((j - i) * 3) (.int .i64 0))) :=
     ⟨_, rfl, by rw [hlen] at h3; exact h3, hC5.trans ((Below.refl base wr).grown h2 hbr (fun k hk => by cases hk; exact hg1))⟩
    have hcap2 : i ≤ cv := by omega
    have hi0 : 0 ≤ (i : Int) ∧ (i : Int) ≤ (j : Int) := by omega
    have hi1 : 0 ≤ (i : Int) ∧ (i : Int) ≤ (cv : Int) := by omega
    replace hfin := hidI hfin
    replace hj := hidI hj
    replace hlen := hidI hlen
    clear hC9 hC1 hC2 hC3 hC4 hC5 hst h1 h2 h3
    go_wp2
    go_ret
    exact hfin.out
set_option maxRecDepth 100000 in
set_option maxHeartbeats 3200000 in
theorem progExtra (w : World) (r s : Int) (v : Value) (es : List Ed) (h : ReadE w.heap.size w v es) (hl : es.length ≤ 10000000) :
 Calls Tryz.prog 55 #[.agg #[.int .i64 r, .int .i64 s, v]] w (LwEdges w (exE r s es)) := by
 have hmf : ∀ (fn : Fn) (first cap : Array Value) (w : World), (Instr.makeFunc fn first cap).run Tryz.prog w = .ok (.func fn first cap) w := fun _ _ _ _ => rfl
 obtain ⟨a, cap, rfl, hnc⟩ := h.form
 obtain ⟨n, hn⟩ := exq es.length
 rw [← hn] at hl hnc ⊢
 rw [← hn] at h
 obtain ⟨w1, hw1⟩ := exq (w.alloc (.cells #[.int .i64 r, .int .i64 s, .slice a n cap] 26))
 have hb1 : Below w.heap.size w w1 := by rw [hw1]; exact (Below.refl _ _).alloc (Nat.le_refl _) _
 have hs1 : w.heap.size < w1.heap.size := by rw [hw1]; simp
 obtain ⟨g0, g1, g2⟩ := box3 hw1
 have hct := treeIn_any w1 r s (.slice a n cap) es ((h.below hb1).mono hb1.size) (by omega)
 obtain ⟨F, hF⟩ := exq (exE r s es)
 rw [← hF]
 have hFl : F.length ≤ 120 := by rw [hF]; exact exE_length r s es
 replace hF := hidI hF
 replace hn := hidI hn
 replace h := hidI h
 have hw1' := hidI hw1.symm
 replace hw1 := hidI hw1
 go_enter Tryz.func55, Tryz.ntmps55
 go_upto_region 1 with fail
 rw [hw1'.out]
 go_wp2_with fail
 refine hct.mono ?_
 rintro e w2 (⟨hf, vF, rfl, hread, hb2⟩ | ⟨hf, rfl, hb2⟩)
 case inr =>
  have hfin : Hid (LwEdges w F (.returned (.slice none 0 0)) w2) := hidI (by
   have : F = [] := by rw [hF.out]; unfold exE; rw [hf]; rfl
   rw [this]
   exact lwEdges_owns (OwnsS.nil _ _) (hb1.trans (hb2.mono hb1.size)) (Nat.le_refl _) (by simp))
  clear hct g0 g1 g2
  replace hf := hidI hf
  go_wp2
  go_ret
  exact hfin.out
 have hlim := fo_lim hf
 have hgood := foundA_good hf (u := 0) (by omega)
 have hnd : (vts (foundA r es 0)).Nodup := nd_arrN _ _ _ _
 have hce := edges_any w2 s.toNat 0 vF _ hread hgood hnd (by have := hgood.length; omega)
 obtain ⟨T, hT⟩ := exq (putAll [] (trA (foundA r es 0)))
 rw [← hT] at hce
 have hTe : T = trE r s es := by rw [hT]; unfold trE; rw [hf]; rfl
 have hTl : T.length ≤ 39 := by rw [hTe]; exact trE_length r s es
 have hFe : F = notT T es := by rw [hF.out]; unfold exE notT; rw [hf, hTe]; rfl
 have hb12 := hidI (hb1.trans (hb2.mono hb1.size))
 replace g2 := below_cell g2 hb2 hs1
 have hs2 : w.heap.size < w2.heap.size := Nat.lt_of_lt_of_le hs1 hb2.size
 replace hT := hidI hT
 replace hTe := hidI hTe
 replace hFe := hidI hFe
 clear hct g0 g1 hread hb2
 replace hf := hidI hf
 replace hlim := hidI hlim
 replace hgood := hidI hgood
 replace hnd := hidI hnd
 obtain ⟨m3, hm3⟩ := exq T.length
 go_wp2_with fail
 refine hce.mono ?_
 rintro e w3 ⟨a3, c3, rfl, hrow, hb3⟩
 rw [← hm3] at hrow ⊢
 obtain ⟨w4, hw4⟩ := exq (w3.alloc (.cells #[.slice a3 m3 c3] 24))
 have hb4 : Below w3.heap.size w3 w4 := by rw [hw4]; exact (Below.refl _ _).alloc (Nat.le_refl _) _
 have hs4 : w4.heap.size = w3.heap.size + 1 := by rw [hw4]; simp
 have cB : w4.cell? ⟨w3.heap.size, 0, none⟩ = some (.slice a3 m3 c3) := by
  have := heap_alloc_new w3 (.cells #[.slice a3 m3 c3] 24)
  rw [← hw4] at this
  exact cell_of_heap this 0
 have hs3 := hb3.size
 replace g2 := below_cell (below_cell g2 hb3 hs2) hb4 (by omega)
 have hb14 := hidI ((hb12.out.trans (hb3.mono hb12.out.size)).trans (hb4.mono (by omega)))
 have hsw4 := hb14.out.size
 have hit : InTr w4 w4.heap.size w3.heap.size (.slice a3 m3 c3) T := ⟨cB, by rw [hm3] at hrow ⊢; exact (hrow.read.below hb4).mono (by omega), by omega, Nat.le_refl _⟩
 have hcl := gpCloneO w4 (.slice a n cap) es ((h.out.below hb14.out).mono hsw4) (by have := hn.out; omega)
 have hw4' := hidI hw4.symm
 replace hw4 := hidI hw4
 replace hm3 := hidI hm3
 replace hs4 := hidI hs4
 clear hce hrow hb3 hb4 cB
 go_upto_region 5 with fail
 rw [hw4'.out]
 go_wp2_with fail
 refine hcl.mono ?_
 rintro e w5 ⟨v5, rfl, hown5, hb5⟩
 have hit5 := hit.below hb5
 have hb15 := hidI (hb14.out.trans (hb5.mono hsw4))
 have hcd := deleteE_any w5 w4.heap.size w3.heap.size (.slice a3 m3 c3) v5 es T hown5 hit5 (by have := hlim.out; omega) (by omega)
 rw [← hFe.out] at hcd
 replace hit := hidI hit
 replace hit5 := hidI hit5
 replace hown5 := hidI hown5
 clear hcl hb5 g2
 go_wp2_with fail
 refine hcd.mono ?_
 rintro e w6 ⟨v6, rfl, hown6, hb6⟩
 have hr : LwEdges w F (.returned v6) w6 := lwEdges_owns hown6 (hb15.out.trans (hb6.mono hsw4)) (by omega) (by omega)
 replace hr := hidI hr
 clear hcd hown6 hb6
 go_wp2
 go_ret
 exact hr.out
end Go.Proofs.YtpjlamnjiilgbaaGreat
