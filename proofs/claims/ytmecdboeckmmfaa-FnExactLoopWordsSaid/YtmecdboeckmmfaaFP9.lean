/- Loops, the program: longerWalks' contract. -/
import Derived.Test.YtmecdboeckmmfaaFP8
import Derived.Test.YtmecdboeckmmfaaFP1
import Derived.Deep.Cut
namespace Go.Proofs.Ytmecdboeckmmfaa
open Go.RowKit Go.Maps
set_option linter.unusedVariables false
set_option linter.unusedSimpArgs false

/-- What longerWalks leaves. -/
def LwLonger (w : World) (ks : List Wa) (e : Ending) (w' : World) : Prop :=
  ∃ v P, e = .returned v ∧ P.map (·.2) = ks ∧ OwnsP w' w.heap.size v P ∧ ElemsW w' w.heap.size v P ∧ Below w.heap.size w w'
theorem okNext_nil (l : Int) : okNext [] l = true := rfl
theorem okNext_last {wd : List Int} {l : Int} (h : wd ≠ []) : okNext wd l = decide (l ≠ -(wd.getD (wd.length - 1) 0)) := by
  unfold okNext
  rw [List.getLast?_eq_getElem?, List.getD_eq_getElem?_getD]
  have hlt : wd.length - 1 < wd.length := by have := List.length_pos_iff.2 h; omega
  rw [List.getElem?_eq_getElem hlt]
  rfl
theorem longer_more {wr w7 w9 : World} {X : Obj} {lo s : Nat} {o v' vc : Value} {P : List (Value × Wa)} {k : Wa} (hE : ElemsW wr lo o P) (hO : OwnsP wr lo o P) (hb : Below wr.heap.size wr w7) (hs : wr.heap.size ≤ s) (hlo : lo ≤ wr.heap.size)
    (hrow : RowI w7 s w7.heap.size vc k.1) (hg : (w7.alloc X).grownBy w9 o.ownBlock) (hloc : v'.ownBlock = o.ownBlock ∨ v'.ownBlock = some (w7.heap.size + 1)) : ElemsW w9 lo v' (P ++ [(vc, k)]) := by
  have hE7 : ElemsW w7 lo o P := hE.keep hb.size (fun b q1 _ => hb.block b q1) (.inl rfl)
  have hlt : ∀ p ∈ P, ∀ b, p.1.ownBlock = some b → b < s := fun p hp b hpb => by
    rcases (hE.1 p hp).1.block with ⟨e1, _⟩ | ⟨c, e1, e2, e3, _⟩
    · rw [e1] at hpb; cases hpb
    · rw [e1] at hpb; cases hpb; omega
  have hne : ∀ b, vc.ownBlock = some b → o.ownBlock ≠ some b := fun b hvb he => by
    have h1 := (World.ownsRow.lt hO b he).2
    rcases hrow.block with ⟨e1, _⟩ | ⟨c, e1, e2, e3, _⟩
    · rw [e1] at hvb; cases hvb
    · rw [e1] at hvb; cases hvb; omega
  have h := hE7.snoc hlt hrow (by omega) hne
  have hsz : w7.heap.size + 1 ≤ w9.heap.size := by have := hg.size; simpa using this
  refine h.keep (by omega) (fun b q1 q2 => ?_) ?_
  · rw [hg.block b (by simp; omega) (fun e => q2 e.symm), heap_alloc_old _ _ q1]
  · rcases hloc with h | h
    · exact .inl h
    · exact .inr ⟨_, h, by omega⟩
set_option maxRecDepth 100000 in
set_option maxHeartbeats 6400000 in
theorem longer_any (w : World) (rN sN bm : Nat) (es : List Ed) (hfo : isFo (rN : Int) (sN : Int) es = true) (hm : MapS w bm (2 * es.length) (stD es es.length)) (hbm : bm < w.heap.size)
    (aw : Option Addr) (cw : Nat) (wd : List Int) (y : Int) (hw : ReadI w.heap.size w (.slice aw wd.length cw) wd) (hwl : wd.length ≤ 100) (hwin : ∀ x ∈ wd, -3 ≤ x ∧ x ≤ 3 ∧ x ≠ 0) (hy : 0 ≤ y ∧ y < (sN : Int)) :
    Calls Try.prog 49 #[.int .i64 (rN : Int), .map (some bm), .agg #[.slice aw wd.length cw, .int .i64 y]] w (LwLonger w (kids es (letsN rN) (wd, y))) := by
  have hfo' := hfo
  unfold isFo at hfo'
  rw [Bool.and_eq_true] at hfo'
  have hlim := isGr_lim hfo'.1
  have hr3 : rN ≤ 3 := by omega
  obtain ⟨LS, hLS⟩ : ∃ L, L = letsN rN := ⟨_, rfl⟩
  have hLl : LS.length = 2 * rN := by rw [hLS]; exact letsN_length rN
  have hLin : ∀ l ∈ LS, -3 ≤ l ∧ l ≤ 3 := fun l hl => by rw [hLS] at hl; have := letsN_in rN l hl; omega
  rw [← hLS]
  obtain ⟨D, hD⟩ : ∃ D, D = stD es es.length := ⟨_, rfl⟩
  obtain ⟨n, hn⟩ : ∃ n, n = 2 * es.length := ⟨_, rfl⟩
  rw [← hn, ← hD] at hm
  have hlook : ∀ l : Int, -3 ≤ l ∧ l ≤ 3 → (has D (kS y l) = true ∧ 0 ≤ nxV es y l ∧ nxV es y l < (sN : Int) ∧ D.atKey (kS y l) (.lit (.int .i64 0)) = .lit (.int .i64 (nxV es y l))) ∨ (has D (kS y l) = false ∧ nxV es y l = -1) := fun l hl => by
    rw [hD]; exact stD_look hfo'.1 hfo'.2 (by unfold I64; omega) (by unfold I64; omega)
  obtain ⟨lw, hlw⟩ : ∃ z, z = wd.length := ⟨_, rfl⟩
  rw [← hlw] at hw hwl ⊢
  obtain ⟨w1, hw1⟩ : ∃ z, z = w.alloc (.cells #[.slice aw lw cw, .int .i64 y] 65) := ⟨_, rfl⟩
  have hb1 : Below w.heap.size w w1 := by rw [hw1]; exact (Below.refl _ _).alloc (Nat.le_refl _) _
  have hs1 : w1.heap.size = w.heap.size + 1 := by rw [hw1]; simp
  have hbx := heap_alloc_new w (.cells #[.slice aw lw cw, .int .i64 y] 65)
  rw [← hw1] at hbx
  have g0 : w1.cell? ⟨w.heap.size, 0, none⟩ = some (.slice aw lw cw) := by simpa using cell_of_heap hbx 0
  have g1 : w1.cell? ⟨w.heap.size, 1, none⟩ = some (.int .i64 y) := by simpa using cell_of_heap hbx 1
  have hcl := progLets w1 rN hr3
  rw [← hLS] at hcl
  obtain ⟨KS, hKS⟩ : ∃ K, K = kids es LS (wd, y) := ⟨_, rfl⟩
  rw [← hKS]
  replace hKS := hidI hKS
  replace hfo := hidI hfo
  replace hfo' := hidI hfo'
  replace hlim := hidI hlim
  replace hLS := hidI hLS
  replace hLl := hidI hLl
  replace hLin := hidI hLin
  replace hlook := hidI hlook
  replace hm := hidI hm
  replace hn := hidI hn
  replace hD := hidI hD
  replace hlw := hidI hlw
  replace hw := hidI hw
  replace hwin := hidI hwin
  replace hs1 := hidI hs1
  replace hbx := hidI hbx
  go_enter Try.func49, Try.ntmps49
  go_upto_region 2 with fail
  rw [← hw1]
  replace hw1 := hidI hw1
  obtain ⟨M, hM⟩ : ∃ M, M = LS.length := ⟨_, rfl⟩
  go_wp2_with fail
  refine hcl.mono ?_
  rintro e wl ⟨vl, rfl, hrowl, hbl⟩
  clear hcl
  have hM6 : M ≤ 6 := by rw [hM, hLl.out]; omega
  obtain ⟨al, cl, rfl⟩ : ∃ a c, vl = Value.slice a M c := by
    obtain ⟨_, ⟨h1, h2⟩ | ⟨g, off, cap, cur, h1, _⟩⟩ := hrowl
    · exact ⟨_, _, by rw [h1, hM, h2]; rfl⟩
    · exact ⟨_, _, by rw [hM]; exact h1⟩
  have hlt1 : w.heap.size < w1.heap.size := by have := hs1.out; omega
  replace g0 := below_cell g0 hbl hlt1
  replace g1 := below_cell g1 hbl hlt1
  have hb1l := hidI (hb1.trans (hbl.mono hb1.size))
  have hlwl : w.heap.size < wl.heap.size := Nat.lt_of_lt_of_le hlt1 hbl.size
  have hP0 : Hid (∃ P : List (Value × Wa), P.map (·.2) = (LS.take 0).flatMap (kid1 es (wd, y)) ∧ OwnsP wl wl.heap.size (.slice none 0 0) P ∧ ElemsW wl wl.heap.size (.slice none 0 0) P) :=
    hidI ⟨[], rfl, World.ownsRow_nil _ _ _ _, ⟨fun p hp => (List.not_mem_nil hp).elim, List.Pairwise.nil⟩⟩
  have hb0 := hidI (Below.refl wl.heap.size wl)
  replace hM := hidI hM
  replace hrowl := hidI hrowl
  clear hbl hb1
  go_wp2
  go_loopg [7, 9, 10, 11, 15] M (fun g o q1 q2 q3 i wr => ∃ j : Nat, j + g = M ∧ i = .int .i64 j ∧ Hid (∃ P : List (Value × Wa), P.map (·.2) = (LS.take j).flatMap (kid1 es (wd, y)) ∧ OwnsP wr wl.heap.size o P ∧ ElemsW wr wl.heap.size o P) ∧ Hid (Below wl.heap.size wl wr))
  case atStart => exact ⟨0, by omega, rfl, hP0, hb0⟩
  case round =>
    clear hP0 hb0
    obtain ⟨j, hj, rfl, hPP, hb⟩ := hrel
    obtain ⟨a7, m7, c7, rfl⟩ : ∃ a m c, u7 = Value.slice a m c := by
      obtain ⟨P, hP1, ⟨_, ⟨h1, _⟩ | ⟨g, cap, cur, h1, _⟩⟩, hP3⟩ := hPP.out <;> exact ⟨_, _, _, h1⟩
    obtain ⟨P, hP1, hP2, hP3⟩ := hPP.out
    have c0 := below_cell g0 hb.out hlwl
    have c1 := below_cell g1 hb.out hlwl
    by_cases hlt : j < M
    · have hji : (j : Int) < (M : Int) := by omega
      obtain ⟨bl, ol, rfl, hbll, cl0⟩ := (hrowl.out.below hb.out (Nat.le_refl _)).read.at2 j (by have := hM.out; omega)
      obtain ⟨l, hl⟩ : ∃ l, l = LS.getD j 0 := ⟨_, rfl⟩
      have hlin : -3 ≤ l ∧ l ≤ 3 := hLin.out l (by
        have hjl : j < LS.length := by have := hM.out; omega
        rw [hl, List.getD_eq_getElem?_getD, List.getElem?_eq_getElem hjl]
        exact List.getElem_mem hjl)
      rw [← hl] at cl0
      have hSn : (LS.take (j + 1)).flatMap (kid1 es (wd, y)) = (LS.take j).flatMap (kid1 es (wd, y)) ++ kid1 es (wd, y) l := by
        have hjl : j < LS.length := by have := hM.out; omega
        rw [List.take_add_one, List.getElem?_eq_getElem hjl, Option.toList_some, List.flatMap_append, hl, List.getD_eq_getElem?_getD, List.getElem?_eq_getElem hjl]
        simp
      have hky := kS_key y l (by unfold I64; have := hlim.out; omega) (by unfold I64; omega)
      have hlk := hlook.out l hlin
      have hmD := hidI (MapS.below (MapS.below hm.out hb1l.out hbm) hb.out (by omega))
      replace hl := hidI hl
      replace hj := hidI hj
      replace hky := hidI hky
      replace hSn := hidI hSn
      replace hP1 := hidI hP1
      obtain ⟨y2, hy2⟩ : ∃ t, t = nxV es y l := ⟨_, rfl⟩
      rw [← hy2] at hlk
      have hskip : kid1 es (wd, y) l = [] → Hid (∃ P : List (Value × Wa), P.map (·.2) = (LS.take (j + 1)).flatMap (kid1 es (wd, y)) ∧ OwnsP wr wl.heap.size (.slice a7 m7 c7) P ∧ ElemsW wr wl.heap.size (.slice a7 m7 c7) P) := fun h => hidI ⟨P, by rw [hSn.out, h, List.append_nil]; exact hP1.out, hP2, hP3⟩
      replace hskip := hidI hskip
      replace hy2 := hidI hy2
      rcases hlk with ⟨hh, hy0, hys, hat⟩ | ⟨hh, hyn⟩
      · obtain ⟨yN, rfl⟩ : ∃ z : Nat, y2 = (z : Int) := ⟨y2.toNat, by omega⟩
        replace hat := hidI hat
        by_cases hw0 : lw = 0
        · have hwd : wd = [] := List.length_eq_zero_iff.1 (by rw [← hlw.out]; exact hw0)
          have hkid := hidI (show kid1 es (wd, y) l = [(wd ++ [l], (yN : Int))] by
            unfold kid1
            rw [if_pos ⟨by show 0 ≤ nxV es y l; rw [← hy2.out]; exact hy0, by rw [hwd]; rfl⟩]
            show [(wd ++ [l], nxV es y l)] = _
            rw [← hy2.out])
          have t0 : ((lw : Int) == 0) = true := by rw [beq_iff_eq]; omega
          replace hw0 := hidI hw0
          replace hwd := hidI hwd
          go_upto_region 7 with (at_lookup; go_must (refine wpList_lookup_own_ok_int _ rfl _ _ 60 rfl 93 3 .i64 lawS Try.underlying60 Try.underlying3 (zeroInt _) bm _ D rfl hmD.out _ _ rfl hky.out ?_; intro c hc2 hwc; obtain rfl : c = (yN : Int) := by (rw [hat.out] at hc2; simpa using hc2.symm)))
          obtain ⟨w5, hw5⟩ : ∃ z, z = wr.alloc (.cells #[.int .i64 l] 3) := ⟨_, rfl⟩
          have hb5 : Below wr.heap.size wr w5 := by rw [hw5]; exact (Below.refl _ _).alloc (Nat.le_refl _) _
          have hs5 : w5.heap.size = wr.heap.size + 1 := by rw [hw5]; simp
          have h5c : w5.heap[wr.heap.size]? = some (.cells #[.int .i64 l] 3 (0, 0)) := by rw [hw5]; exact heap_alloc_new _ _
          obtain ⟨w6, hw6⟩ : ∃ z, z = w5.alloc (.cells #[.slice aw lw cw, .slice (some ⟨wr.heap.size, 0, none⟩) 1 1] 39) := ⟨_, rfl⟩
          have hb6 : Below wr.heap.size wr w6 := by rw [hw6]; exact hb5.alloc hb5.size _
          have hs6 : w6.heap.size = w5.heap.size + 1 := by rw [hw6]; simp
          have h6c : w6.heap[w5.heap.size]? = some (.cells #[.slice aw lw cw, .slice (some ⟨wr.heap.size, 0, none⟩) 1 1] 39 (0, 0)) := by rw [hw6]; exact heap_alloc_new _ _
          have h65 : w6.heap[wr.heap.size]? = some (.cells #[.int .i64 l] 3 (0, 0)) := by rw [hw6, heap_alloc_old _ _ (by omega)]; exact h5c
          have hrw6 : ReadI w6.heap.size w6 (.slice aw lw cw) wd := ((hw.out.below hb1l.out).below (hb.out.mono (Nat.le_of_lt hlwl)) |>.below (hb6.mono (by have := hb.out.size; omega))).mono (by have := hb.out.size; omega)
          have hr61 : ReadI w6.heap.size w6 (.slice (some ⟨wr.heap.size, 0, none⟩) 1 1) [l] := ⟨by simp, _, _, rfl, ⟨(fun e => by cases e), Nat.le_refl _⟩, .inr ⟨_, 0, rfl, by omega, fun z hz => by
            have hz0 : z = 0 := by simpa using hz
            subst hz0
            rw [cell_of_heap h65]; rfl⟩⟩
          have hcc := concat_any w6 (.slice (some ⟨w5.heap.size, 0, none⟩) 2 2) [wd, [l]] ⟨by simp, _, _, rfl, .inr ⟨_, 0, rfl, by omega, fun i hi => by
            have hi2 : i = 0 ∨ i = 1 := by simp at hi; omega
            rcases hi2 with rfl | rfl
            · exact ⟨_, by rw [cell_of_heap h6c]; rfl, hrw6⟩
            · exact ⟨_, by rw [cell_of_heap h6c]; rfl, hr61⟩⟩⟩ (by simp; have := hlw.out; omega)
          rw [show [wd, [l]].flatten = wd ++ [l] by simp] at hcc
          have hww : (wr.alloc (.cells #[.int .i64 l] 3)).alloc (.cells #[.slice aw lw cw, .slice (some ⟨wr.heap.size, 0, none⟩) 1 1] 39) = w6 := by rw [hw6, hw5]
          have hs5' := hs5
          replace hww := hidI hww
          replace hw5 := hidI hw5
          replace hw6 := hidI hw6
          replace hs6 := hidI hs6
          replace h5c := hidI h5c
          replace h6c := hidI h6c
          replace h65 := hidI h65
          replace hrw6 := hidI hrw6
          replace hr61 := hidI hr61
          go_wp2_with fail
          rw [hww.out]
          simp only [← hs5']
          replace hs5 := hidI hs5
          replace hs5' := hidI hs5'
          refine hcc.mono ?_
          rintro e w7 ⟨vc, rfl, hrowc, hb7⟩
          obtain ⟨ac, mc, qc, rfl⟩ : ∃ a m c, vc = Value.slice a m c := by
            obtain ⟨_, ⟨h1, _⟩ | ⟨g, off, cap, cur, h1, _⟩⟩ := hrowc <;> exact ⟨_, _, _, h1⟩
          have hb67 : Below wr.heap.size wr w7 := hb6.trans (hb7.mono hb6.size)
          have hO7 : OwnsP w7 wl.heap.size (.slice a7 m7 c7) P := by
            obtain ⟨h1, h2 | ⟨g, cap, cur, e, hg, hh, hr⟩⟩ := hP2
            · exact ⟨h1, .inl h2⟩
            · exact ⟨h1, .inr ⟨g, cap, cur, e, hg, (hb67.block g (by have := (World.ownsRow.lt (show OwnsP wr wl.heap.size (.slice a7 m7 c7) P from ⟨h1, .inr ⟨g, cap, cur, e, hg, hh, hr⟩⟩) g (by rw [e]; rfl)).2; exact this)).trans hh, hr⟩⟩
          replace hO7 := hidI hO7
          have hPl : P.length ≤ 6 := by
            have h1 : P.length = ((LS.take j).flatMap (kid1 es (wd, y))).length := by rw [← hP1.out, List.length_map]
            have h2 : ∀ L : List Int, (L.flatMap (kid1 es (wd, y))).length ≤ L.length := by
              intro L
              induction L with
              | nil => simp
              | cons a L ih =>
                rw [List.flatMap_cons, List.length_append, List.length_cons]
                have : (kid1 es (wd, y) a).length ≤ 1 := by unfold kid1; split <;> simp
                omega
            have := h2 (LS.take j)
            rw [List.length_take] at this
            have := hM.out
            omega
          replace hb7 := hidI hb7
          clear hcc
          go_wp2_with (at_builtin; go_must (refine wpList_pushP_at rfl _ _ rfl wl.heap.size (.slice a7 m7 c7) P ac mc qc (wd ++ [l]) _ rfl rfl (by exact hO7.out) (by omega) (by have := hb67.size; have := hb.out.size; omega) ?_))
          intro v' w9 hown9 hg9 hloc9
          have hE9 := longer_more (k := (wd ++ [l], (yN : Int))) hP3 hP2 hb67 (show wr.heap.size ≤ w6.heap.size from hb6.size) hb.out.size hrowc hg9 hloc9
          have hPP9 := hidI (show ∃ P : List (Value × Wa), P.map (·.2) = (LS.take (j + 1)).flatMap (kid1 es (wd, y)) ∧ OwnsP w9 wl.heap.size v' P ∧ ElemsW w9 wl.heap.size v' P from ⟨_, by rw [List.map_append, hP1.out, hSn.out, hkid.out]; rfl, hown9, hE9⟩)
          have hb9 := hidI (show Below wl.heap.size wl w9 from by
            have z := hb.out.trans (hb67.mono hb.out.size)
            exact (z.alloc z.size _).grown hg9 (by have := z.size; simp; omega) (fun q hq => (World.ownsRow.lt hP2 q hq).1))
          clear hown9 hg9 hloc9 hE9
          go_wp2
          go_roundg (M - (j + 1))
          case rel => exact ⟨j + 1, by have := hj.out; omega, by go_num, hPP9, hb9⟩
          case measure => have := hj.out; omega
        · have hne : wd ≠ [] := fun e => hw0 (by rw [hlw.out, e]; rfl)
          have t0 : ((lw : Int) == 0) = false := by rw [beq_eq_false_iff_ne]; omega
          obtain ⟨bw, ow, haw, hbw, cw1⟩ := hw.out.at2 (lw - 1) (by have := hlw.out; omega)
          subst haw
          obtain ⟨x, hx⟩ : ∃ x, x = wd.getD (lw - 1) 0 := ⟨_, rfl⟩
          rw [← hx] at cw1
          have hxin := hwin.out x (by
            have hkl : lw - 1 < wd.length := by have := hlw.out; omega
            rw [hx, List.getD_eq_getElem?_getD, List.getElem?_eq_getElem hkl]
            exact List.getElem_mem hkl)
          have cw2 := below_cell (below_cell cw1 hb1l.out hbw) hb.out (by omega)
          obtain ⟨lq, hlq⟩ : ∃ q, lw = q + 1 := ⟨lw - 1, by omega⟩
          rw [show lw - 1 = lq by omega] at cw2
          have hlq1 : IntKind.i64.wrap ((lw : Int) - 1) = (lq : Int) := by rw [IntWalk.i64_in _ (by omega)]; omega
          have hlq2 : (lq : Int) < (lw : Int) := by omega
          have hok : okNext wd l = !(inv x l) := by
            rw [okNext_last hne, ← hlw.out, ← hx]
            unfold inv
            by_cases h : l = -x
            · rw [decide_eq_false (by simpa using h), decide_eq_true (by omega)]; rfl
            · rw [decide_eq_true h, decide_eq_false (by omega)]; rfl
          obtain ⟨b, hbv⟩ : ∃ b, b = inv x l := ⟨_, rfl⟩
          have hai := areInv wr x l (by omega) (by omega) b hbv.symm
          rw [← hbv] at hok
          replace hok := hidI hok
          replace hbv := hidI hbv
          replace hx := hidI hx
          replace hlq := hidI hlq
          replace hne := hidI hne
          replace hw0 := hidI hw0
          clear cw1
          cases b with
          | true =>
            have hk0 : kid1 es (wd, y) l = [] := by unfold kid1; rw [if_neg]; rintro ⟨_, h⟩; have h2 : okNext wd l = true := h; rw [hok.out] at h2; cases h2
            have hPP' := hskip.out hk0
            go_wp2_with (at_lookup; go_must (refine wpList_lookup_own_ok_int _ rfl _ _ 60 rfl 93 3 .i64 lawS Try.underlying60 Try.underlying3 (zeroInt _) bm _ D rfl hmD.out _ _ rfl hky.out ?_; intro c hc2 hwc; obtain rfl : c = (yN : Int) := by (rw [hat.out] at hc2; simpa using hc2.symm)))
            try clear hc2 hwc
            refine hai.mono ?_
            rintro e w4 ⟨rfl, rfl⟩
            clear hai
            go_wp2
            go_roundg (M - (j + 1))
            case rel => exact ⟨j + 1, by have := hj.out; omega, by go_num, hPP', hb⟩
            case measure => have := hj.out; omega
          | false =>
            have hkid := hidI (show kid1 es (wd, y) l = [(wd ++ [l], (yN : Int))] by
              unfold kid1
              rw [if_pos ⟨by show 0 ≤ nxV es y l; rw [← hy2.out]; exact hy0, by show okNext wd l = true; rw [hok.out]; rfl⟩]
              show [(wd ++ [l], nxV es y l)] = _
              rw [← hy2.out])
            go_wp2_with (at_lookup; go_must (refine wpList_lookup_own_ok_int _ rfl _ _ 60 rfl 93 3 .i64 lawS Try.underlying60 Try.underlying3 (zeroInt _) bm _ D rfl hmD.out _ _ rfl hky.out ?_; intro c hc2 hwc; obtain rfl : c = (yN : Int) := by (rw [hat.out] at hc2; simpa using hc2.symm)))
            try clear hc2 hwc
            refine hai.mono ?_
            rintro e w4 ⟨rfl, rfl⟩
            clear hai
            obtain ⟨w5, hw5⟩ : ∃ z, z = wr.alloc (.cells #[.int .i64 l] 3) := ⟨_, rfl⟩
            have hb5 : Below wr.heap.size wr w5 := by rw [hw5]; exact (Below.refl _ _).alloc (Nat.le_refl _) _
            have hs5 : w5.heap.size = wr.heap.size + 1 := by rw [hw5]; simp
            have h5c : w5.heap[wr.heap.size]? = some (.cells #[.int .i64 l] 3 (0, 0)) := by rw [hw5]; exact heap_alloc_new _ _
            obtain ⟨w6, hw6⟩ : ∃ z, z = w5.alloc (.cells #[.slice (some ⟨bw, ow, none⟩) lw cw, .slice (some ⟨wr.heap.size, 0, none⟩) 1 1] 39) := ⟨_, rfl⟩
            have hb6 : Below wr.heap.size wr w6 := by rw [hw6]; exact hb5.alloc hb5.size _
            have hs6 : w6.heap.size = w5.heap.size + 1 := by rw [hw6]; simp
            have h6c : w6.heap[w5.heap.size]? = some (.cells #[.slice (some ⟨bw, ow, none⟩) lw cw, .slice (some ⟨wr.heap.size, 0, none⟩) 1 1] 39 (0, 0)) := by rw [hw6]; exact heap_alloc_new _ _
            have h65 : w6.heap[wr.heap.size]? = some (.cells #[.int .i64 l] 3 (0, 0)) := by rw [hw6, heap_alloc_old _ _ (by omega)]; exact h5c
            have hrw6 : ReadI w6.heap.size w6 (.slice (some ⟨bw, ow, none⟩) lw cw) wd := ((hw.out.below hb1l.out).below (hb.out.mono (Nat.le_of_lt hlwl)) |>.below (hb6.mono (by have := hb.out.size; omega))).mono (by have := hb.out.size; omega)
            have hr61 : ReadI w6.heap.size w6 (.slice (some ⟨wr.heap.size, 0, none⟩) 1 1) [l] := ⟨by simp, _, _, rfl, ⟨(fun e => by cases e), Nat.le_refl _⟩, .inr ⟨_, 0, rfl, by omega, fun z hz => by
              have hz0 : z = 0 := by simpa using hz
              subst hz0
              rw [cell_of_heap h65]; rfl⟩⟩
            have hcc := concat_any w6 (.slice (some ⟨w5.heap.size, 0, none⟩) 2 2) [wd, [l]] ⟨by simp, _, _, rfl, .inr ⟨_, 0, rfl, by omega, fun i hi => by
              have hi2 : i = 0 ∨ i = 1 := by simp at hi; omega
              rcases hi2 with rfl | rfl
              · exact ⟨_, by rw [cell_of_heap h6c]; rfl, hrw6⟩
              · exact ⟨_, by rw [cell_of_heap h6c]; rfl, hr61⟩⟩⟩ (by simp; have := hlw.out; omega)
            rw [show [wd, [l]].flatten = wd ++ [l] by simp] at hcc
            have hww : (wr.alloc (.cells #[.int .i64 l] 3)).alloc (.cells #[.slice (some ⟨bw, ow, none⟩) lw cw, .slice (some ⟨wr.heap.size, 0, none⟩) 1 1] 39) = w6 := by rw [hw6, hw5]
            have hs5' := hs5
            replace hww := hidI hww
            replace hw5 := hidI hw5
            replace hw6 := hidI hw6
            replace hs6 := hidI hs6
            replace h5c := hidI h5c
            replace h6c := hidI h6c
            replace h65 := hidI h65
            replace hrw6 := hidI hrw6
            replace hr61 := hidI hr61
            go_wp2_with fail
            rw [hww.out]
            simp only [← hs5']
            replace hs5 := hidI hs5
            replace hs5' := hidI hs5'
            refine hcc.mono ?_
            rintro e w7 ⟨vc, rfl, hrowc, hb7⟩
            obtain ⟨ac, mc, qc, rfl⟩ : ∃ a m c, vc = Value.slice a m c := by
              obtain ⟨_, ⟨h1, _⟩ | ⟨g, off, cap, cur, h1, _⟩⟩ := hrowc <;> exact ⟨_, _, _, h1⟩
            have hb67 : Below wr.heap.size wr w7 := hb6.trans (hb7.mono hb6.size)
            have hO7 : OwnsP w7 wl.heap.size (.slice a7 m7 c7) P := by
              obtain ⟨h1, h2 | ⟨g, cap, cur, e, hg, hh, hr⟩⟩ := hP2
              · exact ⟨h1, .inl h2⟩
              · exact ⟨h1, .inr ⟨g, cap, cur, e, hg, (hb67.block g (by have := (World.ownsRow.lt (show OwnsP wr wl.heap.size (.slice a7 m7 c7) P from ⟨h1, .inr ⟨g, cap, cur, e, hg, hh, hr⟩⟩) g (by rw [e]; rfl)).2; exact this)).trans hh, hr⟩⟩
            replace hO7 := hidI hO7
            have hPl : P.length ≤ 6 := by
              have h1 : P.length = ((LS.take j).flatMap (kid1 es (wd, y))).length := by rw [← hP1.out, List.length_map]
              have h2 : ∀ L : List Int, (L.flatMap (kid1 es (wd, y))).length ≤ L.length := by
                intro L
                induction L with
                | nil => simp
                | cons a L ih =>
                  rw [List.flatMap_cons, List.length_append, List.length_cons]
                  have : (kid1 es (wd, y) a).length ≤ 1 := by unfold kid1; split <;> simp
                  omega
              have := h2 (LS.take j)
              rw [List.length_take] at this
              have := hM.out
              omega
            replace hb7 := hidI hb7
            clear hcc
            go_wp2_with (at_builtin; go_must (refine wpList_pushP_at rfl _ _ rfl wl.heap.size (.slice a7 m7 c7) P ac mc qc (wd ++ [l]) _ rfl rfl (by exact hO7.out) (by omega) (by have := hb67.size; have := hb.out.size; omega) ?_))
            intro v' w9 hown9 hg9 hloc9
            have hE9 := longer_more (k := (wd ++ [l], (yN : Int))) hP3 hP2 hb67 (show wr.heap.size ≤ w6.heap.size from hb6.size) hb.out.size hrowc hg9 hloc9
            have hPP9 := hidI (show ∃ P : List (Value × Wa), P.map (·.2) = (LS.take (j + 1)).flatMap (kid1 es (wd, y)) ∧ OwnsP w9 wl.heap.size v' P ∧ ElemsW w9 wl.heap.size v' P from ⟨_, by rw [List.map_append, hP1.out, hSn.out, hkid.out]; rfl, hown9, hE9⟩)
            have hb9 := hidI (show Below wl.heap.size wl w9 from by
              have z := hb.out.trans (hb67.mono hb.out.size)
              exact (z.alloc z.size _).grown hg9 (by have := z.size; simp; omega) (fun q hq => (World.ownsRow.lt hP2 q hq).1))
            clear hown9 hg9 hloc9 hE9
            go_wp2
            go_roundg (M - (j + 1))
            case rel => exact ⟨j + 1, by have := hj.out; omega, by go_num, hPP9, hb9⟩
            case measure => have := hj.out; omega
      · have hk0 : kid1 es (wd, y) l = [] := by unfold kid1; rw [if_neg]; rintro ⟨h, _⟩; have : 0 ≤ nxV es y l := h; rw [← hy2.out] at this; omega
        have hPP' := hskip.out hk0
        replace hyn := hidI hyn
        go_wp2_with (at_lookup; go_must (refine wpList_lookup_own_ok_int _ rfl _ _ 60 rfl 93 3 .i64 lawS Try.underlying60 Try.underlying3 (zeroInt _) bm _ D rfl hmD.out _ _ rfl hky.out ?_; intro c hc2 hwc))
        try clear hc2 hwc
        go_wp2
        go_roundg (M - (j + 1))
        case rel => exact ⟨j + 1, by have := hj.out; omega, by go_num, hPP', hb⟩
        case measure => have := hj.out; omega
    · obtain rfl : j = M := by omega
      have hji : ¬ (j : Int) < (j : Int) := by omega
      have hfull : LS.take j = LS := List.take_of_length_le (by have := hM.out; omega)
      rw [hfull] at hP1
      have hr : LwLonger w KS (.returned (.slice a7 m7 c7)) wr := by
        refine ⟨_, P, rfl, by rw [hKS.out]; exact hP1, ?_, ?_, hb1l.out.trans (hb.out.mono hb1l.out.size)⟩
        · obtain ⟨h1, h2 | ⟨g, cap, cur, e, hg, hr⟩⟩ := hP2
          · exact ⟨h1, .inl h2⟩
          · exact ⟨h1, .inr ⟨g, cap, cur, e, by omega, hr⟩⟩
        · exact ⟨fun p hp => ⟨(hP3.1 p hp).1.wide (by omega) (Nat.le_refl _), (hP3.1 p hp).2⟩, hP3.2⟩
      replace hr := hidI hr
      replace hfull := hidI hfull
      replace hP1 := hidI hP1
      replace hP2 := hidI hP2
      replace hP3 := hidI hP3
      replace hj := hidI hj
      go_wp2
      go_ret
      exact hr.out
end Go.Proofs.Ytmecdboeckmmfaa
