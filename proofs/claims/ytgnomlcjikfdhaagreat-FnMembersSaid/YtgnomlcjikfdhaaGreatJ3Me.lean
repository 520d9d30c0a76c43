import Derived.Deep.AppendLies
import Derived.Test.YtgnomlcjikfdhaaGreatJ0Me
import Derived.Test.YtgnomlcjikfdhaaGreatJ2Me
namespace Go.Proofs.YtgnomlcjikfdhaaGreat
open Go.RowKit
set_option linter.unusedVariables false
theorem oP {B : Nat} {a w : World} (h : Below B a w) (n : Nat) : Below B a (w.drewN n) := ⟨h.os, h.tape, h.output, h.size, h.block⟩
theorem mg {w w' : World} {base : Nat} {v : Value} {zs : List Int} (h : ak w' base v zs) (hb : Below w.heap.size w w') (hB : w.heap.size ≤ base) (hl : zs.length ≤ 140737488355328) : bW w zs (.returned v) w' :=
 ⟨v, rfl, (h.row hl).wide hB (nl _), hb⟩
theorem bD.at_ {B : Nat} {w : World} {a : Option Addr} {n cap : Nat} {zs : List Int} (h : bD B w (.slice a n cap) zs) (i : Nat) (hi : i < zs.length) :
 ∃ b off, a = some ⟨b, off, none⟩ ∧ b < B ∧ w.cell? ⟨b, off + i, none⟩ = some (.int .i64 (zs.getD i 0)) := by
 obtain ⟨_, a', cap', hv, _, hr⟩ := h; simp only [Value.slice.injEq] at hv; obtain ⟨rfl, _, rfl⟩ := hv
 rcases hr with h0 | ⟨b, off, ha, hB, hc⟩
 · rw [h0] at hi; simp at hi
 · exact ⟨b, off, ha, hB, hc i hi⟩
set_option maxHeartbeats 800000 in
theorem KT (w : World) (v : Value) (zs : List Int) (h : bD w.heap.size w v zs) (hl : zs.length ≤ 100000000) :
 Calls Tryz.prog 28 #[v] w (bW w (invL zs)) := by
 have hread := h; obtain ⟨_, a, cap, rfl, hq1, hq2⟩ := h; clear hq1 hq2; obtain ⟨n, hn⟩ := ag zs.length; rw [← hn] at hl hread ⊢; have hown0 := ae (ak.lit w); have hb0 := (Below.refl w.heap.size w).alloc (nl _) (.cells #[] 3); replace hn := ae hn; replace hread := ae hread; go_enter Tryz.func28, Tryz.ntmps28
 go_wp2
 go_loopw [3, 4] (fun vv i wr => ∃ j : Nat, j ≤ n ∧ i = .int .i64 ((j : Int) - 1) ∧ ak wr w.heap.size vv (invL (zs.drop j)) ∧ Below w.heap.size w wr) (fun _ i _ => (intOf i + 1).toNat)
 case atStart => exact ⟨n, nl _, rfl, by rw [List.drop_eq_nil_of_le (by rw [hn.out]; exact nl _)]; exact hown0.out, hb0⟩
 case round =>
  clear hown0 hb0; obtain ⟨j, hj, rfl, hown, hb⟩ := hrel; by_cases hj0 : 1 ≤ j
  · obtain ⟨j, rfl⟩ : ∃ i, j = i + 1 := ⟨j - 1, by omega⟩
    obtain ⟨b, off, rfl, hB, hcell⟩ := (hread.out.below hb).at_ j (by have := hn.out; omega)
    obtain ⟨z, hz⟩ := ag (zs.getD j 0); have hst := GH zs j (by have := hn.out; omega)
    have hil : (invL (zs.drop (j + 1))).length ≤ 1000000000 := by rw [qi, List.length_drop]; have := hn.out; omega
    rw [← hz] at hcell hst; have hidx : ((j : Int) + 1 - 1) = (j : Int) := by omega
    replace hst := ae hst; replace hz := ae hz; replace hown := ae hown; go_wp2_with (at_builtin; go_must (refine bM rfl _ _ rfl w.heap.size _ (invL (zs.drop (j + 1))) _ rfl rfl (by exact hown.out) hil hb.size ?_))
    intro v' w' hown' hb'; have hown2 : ak w' w.heap.size v' (invL (zs.drop j)) := by rw [hst.out]; exact hown'
    have hb2 := hb.trans hb'; replace hown2 := ae hown2; clear hown' hb' hown hb hil hst; go_wp2; go_roundw
    case rel => exact ⟨j, by omega, by go_num, hown2.out, hb2⟩
    case measure => simp [intOf]
  · obtain rfl : j = 0 := by omega
    replace hown := ae hown; go_wp2; go_ret; exact mg hown.out hb (nl _) (by rw [qi]; have := hn.out; omega)
theorem ak.form {w : World} {base : Nat} {v : Value} {zs : List Int} (h : ak w base v zs) (h0 : 0 < zs.length) :
 ∃ g cap, v = .slice (some ⟨g, 0, none⟩) zs.length cap ∧ base ≤ g ∧ g < w.heap.size ∧ zs.length ≤ cap := by
 obtain ⟨hl, ⟨rfl, hn⟩ | ⟨g, cap, cur, rfl, hg, hh, hcap, hmax, hsz, htk⟩⟩ := h
 · omega
 · exact ⟨g, cap, rfl, hg, (Array.getElem?_eq_some_iff.1 hh).1, hcap⟩
theorem ak.form_any {w : World} {base : Nat} {v : Value} {zs : List Int} (h : ak w base v zs) : ∃ a cap, v = .slice a zs.length cap := by
 obtain ⟨hl, ⟨rfl, hn⟩ | ⟨g, cap, cur, rfl, hg, hh, hcap, hmax, hsz, htk⟩⟩ := h
 · exact ⟨none, 0, by rw [hn]⟩
 · exact ⟨_, _, rfl⟩
theorem ak.at_ {w : World} {base g n cap : Nat} {zs : List Int} (h : ak w base (.slice (some ⟨g, 0, none⟩) n cap) zs) (hn : n = zs.length) (i : Nat) (hi : i < zs.length) :
 w.cell? ⟨g, i, none⟩ = some (.int .i64 (zs.getD i 0)) := by
 subst hn; rw [World.ownsRow.cellAt h i (by omega), List.getElem?_map, gE hi]
 simp [iv, List.getD_eq_getElem?_getD, hi]
theorem ak.pop {w : World} {base g cap : Nat} {zs : List Int} (h : ak w base (.slice (some ⟨g, 0, none⟩) zs.length cap) zs) (h0 : 0 < zs.length) :
 ak w base (.slice (some ⟨g, 0, none⟩) (zs.length - 1) cap) (zs.take (zs.length - 1)) := by
 obtain ⟨n, hn⟩ : ∃ n, zs.length = n + 1 := ⟨zs.length - 1, by omega⟩
 have hl : (zs.take (zs.length - 1)).length = n := by rw [List.length_take]; omega
 unfold ak at h ⊢; rw [hl, show zs.length - 1 = n by omega]
 rw [hn] at h; have e : zs.map iv = (zs.take n).map iv ++ (zs.drop n).map iv := by rw [← List.map_append, List.take_append_drop]
 rw [e] at h; exact ownsRow_pop (by rw [List.length_map, List.length_take]; omega) h
def GN (w : World) (zs : List Int) (e : Ending) (w' : World) : Prop := ∃ v, e = .returned v ∧ ak w' w.heap.size v zs ∧ Below w.heap.size w w'
theorem FC {w w' : World} {base : Nat} {v : Value} {zs : List Int} (h : ak w' base v zs) (hb : Below w.heap.size w w') (hB : w.heap.size ≤ base) : GN w zs (.returned v) w' := ⟨v, rfl, h.mono hB, hb⟩
set_option maxHeartbeats 1600000 in
theorem vF (w : World) (v : Value) (zs : List Int) (h : bD w.heap.size w v zs) (hl : zs.length ≤ 100000000) :
 Calls Tryz.prog 67 #[v] w (GN w (bK zs)) := by
 have hread := h; obtain ⟨_, a, cap, rfl, hq1, hq2⟩ := h; clear hq1 hq2; obtain ⟨n, hn⟩ := ag zs.length; rw [← hn] at hl hread ⊢; have hown0 := ae (ak.lit w); have hb0 := (Below.refl w.heap.size w).alloc (nl _) (.cells #[] 3); replace hn := ae hn; replace hread := ae hread; go_enter Tryz.func67, Tryz.ntmps67
 go_wp2
 go_loopw [3, 4, 5] (fun vv i _ wr => ∃ k : Nat, k ≤ n ∧ i = .int .i64 k ∧ ak wr w.heap.size vv (bK (zs.take k)) ∧ Below w.heap.size w wr) (fun _ i _ _ => n - (intOf i).toNat)
 case atStart => exact ⟨0, Nat.zero_le _, rfl, hown0.out, hb0⟩
 case round =>
  clear hown0 hb0; obtain ⟨k, hk, rfl, hown, hb⟩ := hrel; by_cases hlt : k < n
  · obtain ⟨b, off, rfl, hB, hcell⟩ := (hread.out.below hb).at_ k (by have := hn.out; omega)
    obtain ⟨x, hx⟩ := ag (zs.getD k 0); obtain ⟨o, ho⟩ := ag (bK (zs.take k)); have hst := Gt zs k (by have := hn.out; omega)
    have hol : o.length ≤ 100000000 := by
     rw [ho]; have := jf (zs.take k); rw [List.length_take] at this; omega
    rw [← hx] at hcell hst; rw [← ho] at hst hown; have hlt2 : (k : Int) < (n : Int) := by omega
    replace hst := ae hst; replace hx := ae hx; replace ho := ae ho; by_cases h0 : 0 < o.length
    · obtain ⟨g, cap', rfl, hg1, hg2, hcap⟩ := hown.form h0
      have hlast := hown.at_ rfl (o.length - 1) (by omega)
      have hpop := hown.pop h0; obtain ⟨y, hy⟩ := ag (o.getD (o.length - 1) 0); rw [← hy] at hlast; obtain ⟨m, hm⟩ := ag o.length; rw [← hm] at hlast hpop hown hcap h0 hol ⊢; have hm1 : (m : Int) - 1 ≤ (cap' : Int) := by omega
      have hm0 : (0 : Int) < (m : Int) := by omega
      have hcan : cancels o x = decide (x ≠ 0 ∧ y = ng x ∧ y ≠ x) := by
       unfold cancels; rw [← hm, hm, ← hy, Bool.eq_iff_iff]; simp
       omega
      replace hy := ae hy; replace hm := ae hm; by_cases hx0 : x = 0
      · have hno := ae (oH (by rw [hcan]; simp [hx0]))
        have hf : (x != 0) = false := by rw [bne_eq_false_iff_eq]; exact hx0
        clear hcan hpop hx0; go_wp2; go_quiet (fail)
        rename_i nq
        have hown2 := hown.drewN nq; have hb2 : Below w.heap.size w (wr.drewN nq) := oP hb nq; have hcell2 : (wr.drewN nq).cell? ⟨b, off + k, none⟩ = some (.int .i64 x) := hcell; generalize wr.drewN nq = w2 at hown2 hb2 hcell2 ⊢
        have hol2 : o.length ≤ 1000000000 := by rw [← hm.out]; omega
        replace hown := ae hown; replace hown2 := ae hown2; clear hcell hb hlast; go_wp2_with (at_builtin; go_must (refine bM rfl _ _ rfl w.heap.size _ o _ rfl rfl (by exact hown2.out) hol2 hb2.size ?_))
        intro v' w' hown' hb'; have hown3 : ak w' w.heap.size v' (bK (zs.take (k + 1))) := by rw [hst.out, hno.out]; exact hown'
        have hb3 := hb2.trans hb'; replace hown3 := ae hown3; clear hown' hb' hown2 hb2 hcell2; go_wp2; go_roundw
        case rel => exact ⟨k + 1, by omega, by go_num, hown3.out, hb3⟩
        case measure => simp [intOf]; omega
      · have hf : (x != 0) = true := by rw [bne_iff_ne]; exact hx0
        by_cases hyn : y = ng x
        · have hf2 : (y == wrap64 (-x)) = true := by rw [beq_iff_eq]; exact hyn
          by_cases hyx : y = x
          · have hno := ae (oH (by rw [hcan]; simp [hyx]))
            have hf3 : (y != x) = false := by rw [bne_eq_false_iff_eq]; exact hyx
            clear hcan hpop hx0 hyn hyx; go_wp2; go_quiet (fail)
            rename_i nq
            have hown2 := hown.drewN nq; have hb2 : Below w.heap.size w (wr.drewN nq) := oP hb nq; have hcell2 : (wr.drewN nq).cell? ⟨b, off + k, none⟩ = some (.int .i64 x) := hcell; generalize wr.drewN nq = w2 at hown2 hb2 hcell2 ⊢
            have hol2 : o.length ≤ 1000000000 := by rw [← hm.out]; omega
            replace hown := ae hown; replace hown2 := ae hown2; clear hcell hb hlast; go_wp2_with (at_builtin; go_must (refine bM rfl _ _ rfl w.heap.size _ o _ rfl rfl (by exact hown2.out) hol2 hb2.size ?_))
            intro v' w' hown' hb'; have hown3 : ak w' w.heap.size v' (bK (zs.take (k + 1))) := by rw [hst.out, hno.out]; exact hown'
            have hb3 := hb2.trans hb'; replace hown3 := ae hown3; clear hown' hb' hown2 hb2 hcell2; go_wp2; go_roundw
            case rel => exact ⟨k + 1, by omega, by go_num, hown3.out, hb3⟩
            case measure => simp [intOf]; omega
          · have hyes := ae (zD (show cancels o x = true by rw [hcan]; simp only [decide_eq_true_eq]; exact ⟨hx0, hyn, hyx⟩))
            have hf3 : (y != x) = true := by rw [bne_iff_ne]; exact hyx
            clear hcan hx0 hyn hyx; replace hown := ae hown; replace hpop := ae hpop; go_wp2; go_quiet (fail)
            rename_i nq
            have hpop2 := ae (hpop.out.drewN nq); have hb2 : Below w.heap.size w (wr.drewN nq) := oP hb nq; clear hcell hb hlast; go_wp2; go_roundw
            case rel => exact ⟨k + 1, by omega, by go_num, by rw [hst.out, hyes.out, ← hm.out]; exact hpop2.out, hb2⟩
            case measure => simp [intOf]; omega
        · have hno := ae (oH (by rw [hcan]; simp [hyn]))
          have hf2 : (y == wrap64 (-x)) = false := by rw [beq_eq_false_iff_ne]; exact hyn
          clear hcan hpop hx0 hyn; go_wp2; go_quiet (fail)
          rename_i nq
          have hown2 := hown.drewN nq; have hb2 : Below w.heap.size w (wr.drewN nq) := oP hb nq; have hcell2 : (wr.drewN nq).cell? ⟨b, off + k, none⟩ = some (.int .i64 x) := hcell; generalize wr.drewN nq = w2 at hown2 hb2 hcell2 ⊢
          have hol2 : o.length ≤ 1000000000 := by rw [← hm.out]; omega
          replace hown := ae hown; replace hown2 := ae hown2; clear hcell hb hlast; go_wp2_with (at_builtin; go_must (refine bM rfl _ _ rfl w.heap.size _ o _ rfl rfl (by exact hown2.out) hol2 hb2.size ?_))
          intro v' w' hown' hb'; have hown3 : ak w' w.heap.size v' (bK (zs.take (k + 1))) := by rw [hst.out, hno.out]; exact hown'
          have hb3 := hb2.trans hb'; replace hown3 := ae hown3; clear hown' hb' hown2 hb2 hcell2; go_wp2; go_roundw
          case rel => exact ⟨k + 1, by omega, by go_num, hown3.out, hb3⟩
          case measure => simp [intOf]; omega
    · have hcan : cancels o x = false := by
       unfold cancels; simp
       omega
      have hno := ae (oH hcan); have h00 : o.length = 0 := by omega
      have hform := hown.form_any; rw [h00] at hform; obtain ⟨a0, c0, rfl⟩ := hform; replace h00 := ae h00; clear hcan; go_wp2; go_quiet (fail)
      rename_i nq
      have hown2 := hown.drewN nq; have hb2 : Below w.heap.size w (wr.drewN nq) := oP hb nq; have hcell2 : (wr.drewN nq).cell? ⟨b, off + k, none⟩ = some (.int .i64 x) := hcell; generalize wr.drewN nq = w2 at hown2 hb2 hcell2 ⊢
      have hol2 : o.length ≤ 1000000000 := by rw [h00.out]; omega
      replace hown := ae hown; replace hown2 := ae hown2; clear hcell hb; go_wp2_with (at_builtin; go_must (refine bM rfl _ _ rfl w.heap.size _ o _ rfl rfl (by exact hown2.out) hol2 hb2.size ?_))
      intro v' w' hown' hb'; have hown3 : ak w' w.heap.size v' (bK (zs.take (k + 1))) := by rw [hst.out, hno.out]; exact hown'
      have hb3 := hb2.trans hb'; replace hown3 := ae hown3; clear hown' hb' hown2 hb2 hcell2; go_wp2; go_roundw
      case rel => exact ⟨k + 1, by omega, by go_num, hown3.out, hb3⟩
      case measure => simp [intOf]; omega
  · obtain rfl : k = n := by omega
    have hlt2 : decide ((k : Int) < (k : Int)) = false := by simp
    have hzs : zs.take k = zs := List.take_of_length_le (by have := hn.out; omega)
    rw [hzs] at hown; have hrl := jf zs; have hrl2 : (bK zs).length ≤ 100000000 := by have := hn.out; omega
    have hlit := ae (ak.lit wr); have hx := ae (((hown.row (by omega)).read).below ((Below.refl wr.heap.size wr).alloc (nl _) (.cells #[] 3)))
    have hrl3 : ([] : List Int).length + (bK zs).length ≤ 1000000000 := by simp; omega
    have hsz : wr.heap.size ≤ (wr.alloc (.cells #[] 3)).heap.size := by simp
    clear hrl; replace hown := ae hown; replace hzs := ae hzs; go_wp2_with (at_builtin; go_must (refine jT rfl _ _ rfl wr.heap.size _ _ [] (bK zs) wr.heap.size rfl rfl (by exact hlit.out) (by exact hx.out) hrl3 (by simp) ?_))
    intro v' w' hown' hb'; have hown2 : ak w' wr.heap.size v' (bK zs) := hown'; have hb2 : Below w.heap.size w w' := (hb.alloc hb.size (.cells #[] 3)).trans (hb'.mono hb.size); have hs2 := hb.size; replace hown2 := ae hown2; clear hown' hb' hlit hx; go_wp2; go_ret; exact FC hown2.out hb2 hs2
theorem DX (w : World) (v : Value) (zs : List Int) (h : bD w.heap.size w v zs) (hl : zs.length ≤ 100000000) :
 Calls Tryz.prog 67 #[v] w (bW w (bK zs)) :=
 (vF w v zs h hl).mono fun e w' ⟨v', he, ho, hb⟩ => by
  subst he; exact mg ho hb (nl _) (by have := jf zs; omega)
set_option linter.unusedSimpArgs false
def fE (x : Int) : List Int → List Int
 | [] => [x]
 | y :: ys => if y < x then y :: fE x ys else if y = x then y :: ys else x :: y :: ys
theorem nH (x : Int) (l : List Int) : (fE x l).length ≤ l.length + 1 := by
 induction l with
 | nil => simp [fE]
 | cons y ys ih =>
  unfold fE; split
  · simp only [List.length_cons]; omega
  · split <;> simp
theorem Az (x : Int) : fE x [] = [x] := rfl
theorem yK {x y : Int} (ys : List Int) (h : y < x) : fE x (y :: ys) = y :: fE x ys := by rw [fE, if_pos h]
theorem yA {x y : Int} (ys : List Int) (h : y = x) : fE x (y :: ys) = y :: ys := by rw [fE, if_neg (by omega), if_pos h]
theorem yI {x y : Int} (ys : List Int) (h : x < y) : fE x (y :: ys) = x :: y :: ys := by rw [fE, if_neg (by omega), if_neg (by omega)]
theorem IB {l : List Int} {k : Nat} (h : k < l.length) : l.drop k = l.getD k 0 :: l.drop (k + 1) := by
 rw [List.drop_eq_getElem_cons h, gD, gE h]; rfl
theorem ak.form4 {w : World} {base : Nat} {v : Value} {zs : List Int} (h : ak w base v zs) : ∃ a m c, v = .slice a m c := by
 obtain ⟨a, cap, hv⟩ := ak.form_any h; exact ⟨a, _, cap, hv⟩
set_option maxHeartbeats 1600000 in
theorem uH (w : World) (v : Value) (zs : List Int) (x : Int) (h : bD w.heap.size w v zs) (hl : zs.length ≤ 100000000) :
 Calls Tryz.prog 93 #[v, .int .i64 x] w (bW w (fE x zs)) := by
 have hread := h; obtain ⟨_, a, cap, rfl, hq1, hq2⟩ := h; clear hq1 hq2; obtain ⟨n, hn⟩ := ag zs.length; have hal := nH x zs; rw [← hn] at hl hread hal ⊢; obtain ⟨R, hR⟩ := ag (fE x zs); rw [← hR] at hal ⊢; have hown0 := ae (ak.lit w); have hb0 := (Below.refl w.heap.size w).alloc (nl _) (.cells #[] 3); replace hn := ae hn; replace hread := ae hread; replace hR := ae hR; go_enter Tryz.func93, Tryz.ntmps93
 go_wp2
 go_loopg [5, 6, 7] n (fun g vv p i wr => ∃ (k : Nat) (o : List Int) (q : Bool), k + g = n ∧ i = .int .i64 k ∧ p = .bool q ∧ o.length ≤ n + 1 ∧ Hid (R = o ++ (if q = true then zs.drop k else fE x (zs.drop k))) ∧ Hid (ak wr w.heap.size vv o) ∧ Hid (Below w.heap.size w wr))
 case atStart => exact ⟨0, [], false, by omega, rfl, rfl, by simp, ae (by rw [hR.out]; rfl), hown0, ae hb0⟩
 case round =>
  clear hown0 hb0; obtain ⟨k, o, q, hk, rfl, rfl, hol, hinv, hown, hb⟩ := hrel; obtain ⟨a1, m1, c1, rfl⟩ := ak.form4 hown.out; by_cases hlt : k < n
  · obtain ⟨b, off, rfl, hB, hcell⟩ := (hread.out.below hb.out).at_ k (by have := hn.out; omega)
    obtain ⟨z, hz⟩ := ag (zs.getD k 0); have hdr := IB (l := zs) (k := k) (by have := hn.out; omega)
    rw [← hz] at hcell hdr; have hrl : R.length = o.length + (if q = true then zs.drop k else fE x (zs.drop k)).length := by rw [hinv.out, List.length_append]
    have hki : (k : Int) < (n : Int) := by omega
    replace hz := ae hz; have hpre : ∀ (o t : List Int), R = o ++ t → o.length ≤ n + 1 := by
     intro o t hh; have : R.length = o.length + t.length := by rw [hh, List.length_append]
     omega
    rw [hdr] at hinv; clear hrl; have hpre2 := hol; replace hpre := ae hpre; replace hdr := ae hdr; replace hk := ae hk
    rcases Int.lt_trichotomy z x with hzx | hzx | hzx
    · have t1 : (z == x) = false := by rw [beq_eq_false_iff_ne]; omega
      have t2 : ¬ x < z := by omega
      cases q with
      | true =>
       have hnx := ae (show R = (o ++ [z]) ++ (if true = true then zs.drop (k + 1) else fE x (zs.drop (k + 1))) by rw [hinv.out]; simp)
       go_wp2_with (at_builtin; go_must (refine bM rfl _ _ rfl w.heap.size _ (o) _ rfl rfl (by exact hown.out) (by have := hal; have := hpre2; simp; omega) hb.out.size ?_))
       intro v' w' hown' hb'; replace hown' := ae hown'; replace hb' := ae (hb.out.trans hb'); clear hown hb; go_wp2; go_roundg (n - (k + 1))
       case rel => exact ⟨k + 1, _, true, by have := hk.out; omega, by go_num, rfl, hpre.out _ _ hnx.out, hnx, hown', hb'⟩
       case measure => have := hk.out; omega
      | false =>
       have hnx := ae (show R = (o ++ [z]) ++ (if false = true then zs.drop (k + 1) else fE x (zs.drop (k + 1))) by rw [hinv.out]; simp [yK _ hzx])
       go_wp2_with (at_builtin; go_must (refine bM rfl _ _ rfl w.heap.size _ (o) _ rfl rfl (by exact hown.out) (by have := hal; have := hpre2; simp; omega) hb.out.size ?_))
       intro v' w' hown' hb'; replace hown' := ae hown'; replace hb' := ae (hb.out.trans hb'); clear hown hb; go_wp2; go_roundg (n - (k + 1))
       case rel => exact ⟨k + 1, _, false, by have := hk.out; omega, by go_num, rfl, hpre.out _ _ hnx.out, hnx, hown', hb'⟩
       case measure => have := hk.out; omega
    · have t1 : (z == x) = true := by rw [beq_iff_eq]; exact hzx
      have t2 : ¬ x < z := by omega
      cases q with
      | true =>
       have hnx := ae (show R = (o ++ [z]) ++ (if true = true then zs.drop (k + 1) else fE x (zs.drop (k + 1))) by rw [hinv.out]; simp)
       replace hzx := ae hzx; go_wp2_with (at_builtin; go_must (refine bM rfl _ _ rfl w.heap.size _ (o) _ rfl rfl (by exact hown.out) (by have := hal; have := hpre2; simp; omega) hb.out.size ?_))
       intro v' w' hown' hb'; replace hown' := ae hown'; replace hb' := ae (hb.out.trans hb'); clear hown hb; go_wp2; go_roundg (n - (k + 1))
       case rel => exact ⟨k + 1, _, true, by have := hk.out; omega, by go_num, rfl, hpre.out _ _ hnx.out, hnx, hown', hb'⟩
       case measure => have := hk.out; omega
      | false =>
       have hnx := ae (show R = (o ++ [z]) ++ (if true = true then zs.drop (k + 1) else fE x (zs.drop (k + 1))) by rw [hinv.out]; simp [yA _ hzx])
       replace hzx := ae hzx; go_wp2_with (at_builtin; go_must (refine bM rfl _ _ rfl w.heap.size _ (o) _ rfl rfl (by exact hown.out) (by have := hal; have := hpre2; simp; omega) hb.out.size ?_))
       intro v' w' hown' hb'; replace hown' := ae hown'; replace hb' := ae (hb.out.trans hb'); clear hown hb; go_wp2; go_roundg (n - (k + 1))
       case rel => exact ⟨k + 1, _, true, by have := hk.out; omega, by go_num, rfl, hpre.out _ _ hnx.out, hnx, hown', hb'⟩
       case measure => have := hk.out; omega
    · have t1 : (z == x) = false := by rw [beq_eq_false_iff_ne]; omega
      have t2 : x < z := hzx
      cases q with
      | true =>
       have hnx := ae (show R = (o ++ [z]) ++ (if true = true then zs.drop (k + 1) else fE x (zs.drop (k + 1))) by rw [hinv.out]; simp)
       go_wp2_with (at_builtin; go_must (refine bM rfl _ _ rfl w.heap.size _ (o) _ rfl rfl (by exact hown.out) (by have := hal; have := hpre2; simp; omega) hb.out.size ?_))
       intro v' w' hown' hb'; replace hown' := ae hown'; replace hb' := ae (hb.out.trans hb'); clear hown hb; go_wp2; go_roundg (n - (k + 1))
       case rel => exact ⟨k + 1, _, true, by have := hk.out; omega, by go_num, rfl, hpre.out _ _ hnx.out, hnx, hown', hb'⟩
       case measure => have := hk.out; omega
      | false =>
       have hnx := ae (show R = (o ++ [x, z]) ++ (if true = true then zs.drop (k + 1) else fE x (zs.drop (k + 1))) by rw [hinv.out]; simp [yI _ hzx])
       go_wp2_with (at_builtin; go_must (refine bM rfl _ _ rfl w.heap.size _ (o) _ rfl rfl (by exact hown.out) (by have := hal; have := hpre2; simp; omega) hb.out.size ?_))
       intro v' w' hown' hb'; replace hcell := af hcell hb' hB; replace hown' := ae hown'; replace hb' := ae (hb.out.trans hb'); clear hown hb; obtain ⟨a2, m2, c2, rfl⟩ := ak.form4 hown'.out; have hown := hown'; have hb := hb'; clear hown' hb'; go_wp2_with (at_builtin; go_must (refine bM rfl _ _ rfl w.heap.size _ (o ++ [x]) _ rfl rfl (by exact hown.out) (by have := hal; have := hpre2; simp; omega) hb.out.size ?_))
       intro v' w' hown' hb'; replace hown' := ae hown'; replace hb' := ae (hb.out.trans hb'); clear hown hb; go_wp2; go_roundg (n - (k + 1))
       case rel => exact ⟨k + 1, _, true, by have := hk.out; omega, by go_num, rfl, hpre.out _ _ hnx.out, hnx, hown', hb'⟩
       case measure => have := hk.out; omega
  · obtain rfl : k = n := by omega
    have hki : ¬ (k : Int) < (k : Int) := by omega
    have hdn : zs.drop k = [] := List.drop_eq_nil_of_le (by rw [← hn.out]; exact nl _)
    rw [hdn] at hinv
    cases q with
    | true =>
     have hRo : R = o := by rw [hinv.out]; simp
     replace hRo := ae hRo; go_wp2; go_ret; rw [hRo.out]; exact mg hown.out hb.out (nl _) (by omega)
    | false =>
     have hRo : R = o ++ [x] := by rw [hinv.out]; rfl
     replace hRo := ae hRo; go_wp2_with (at_builtin; go_must (refine bM rfl _ _ rfl w.heap.size _ o _ rfl rfl (by exact hown.out) (by omega) hb.out.size ?_))
     intro v' w' hown' hb'; replace hown' := ae hown'; go_wp2; go_ret; rw [hRo.out]; exact mg hown'.out (hb.out.trans hb') (nl _) (by simp; omega)
def fH (v x : Int) (acc : List Int) (e : Ed) : List Int :=
 if 0 < x ∧ e.2.1 = x ∧ e.1 = v then fE e.2.2 acc else if x < 0 ∧ e.2.1 = wrap64 (-x) ∧ e.2.2 = v then fE e.1 acc else acc
def fD (v x : Int) (es : List Ed) : List Int := es.foldl (fH v x) []
theorem BV (v x : Int) (acc : List Int) (e : Ed) : (fH v x acc e).length ≤ acc.length + 1 := by
 unfold fH; split
 · exact nH _ _
 · split
   · exact nH _ _
   · omega
theorem Ad (v x : Int) (es : List Ed) : ∀ acc, (es.foldl (fH v x) acc).length ≤ acc.length + es.length := by
 induction es with
 | nil => intro acc; simp
 | cons e es ih =>
  intro acc; have := ih (fH v x acc e); have h2 := BV v x acc e; simp only [List.foldl_cons, List.length_cons]; omega
theorem zM (v x : Int) (es : List Ed) : (fD v x es).length ≤ es.length := by
 have := Ad v x es []; simpa [fD] using this
theorem Cf {v x : Int} {es : List Ed} {k : Nat} (h : k < es.length) : fD v x (es.take (k + 1)) = fH v x (fD v x (es.take k)) (es.getD k e0) := by
 unfold fD; rw [sJ h, List.foldl_append]; rfl
set_option maxHeartbeats 1600000 in
theorem Hg (w : World) (r s : Int) (v : Value) (es : List Ed) (x y : Int) (h : ay w.heap.size w v es) (hl : es.length ≤ 10000000) :
 Calls Tryz.prog 102 #[.agg #[.int .i64 r, .int .i64 s, v], .int .i64 x, .int .i64 y] w (bW w (fD x y es)) := by
 obtain ⟨a, cap, rfl, hnc⟩ := h.form; obtain ⟨n, hn⟩ := ag es.length; rw [← hn] at hl hnc ⊢; rw [← hn] at h; obtain ⟨w1, hw1⟩ := ag (w.alloc (.cells #[.int .i64 r, .int .i64 s, .slice a n cap] 26)); have hb1 : Below w.heap.size w w1 := by rw [hw1]; exact (Below.refl _ _).alloc (nl _) _
 have hs1 : w.heap.size < w1.heap.size := by rw [hw1]; simp
 obtain ⟨g0, g1, g2⟩ := bT hw1; have hrd := ae (h.below hb1); have hs1e : w1.heap.size = w.heap.size + 1 := by rw [hw1]; simp
 have hrow0 : Hid (bg (w1.alloc (.cells #[] 3)) w.heap.size (w1.alloc (.cells #[] 3)).heap.size (.slice (some ⟨w.heap.size + 1, 0, none⟩) 0 0) []) := by
  rw [← hs1e]; exact ae (((ak.lit w1).row (by simp)).wide hb1.size (nl _))
 have hb0 := ae ((Below.refl w1.heap.size w1).alloc (nl _) (.cells #[] 3)); obtain ⟨y', hy'⟩ : ∃ y', y' = wrap64 (-y) := ⟨_, rfl⟩; have hy2 := hy'.symm; replace hy' := ae hy'; replace hn := ae hn; replace hw1 := ae hw1; replace hs1e := ae hs1e; replace h := ae h; go_enter Tryz.func102, Tryz.ntmps102
 go_wp2; rw [← hw1.out]
 go_loopg [7, 8] n (fun g vv i wr => ∃ k : Nat, k + g = n ∧ i = .int .i64 k ∧ Hid (bg wr w.heap.size wr.heap.size vv (fD x y (es.take k))) ∧ Hid (Below w1.heap.size w1 wr))
 case atStart => exact ⟨0, by omega, rfl, hrow0, hb0⟩
 case round =>
  clear hrow0 hb0; obtain ⟨k, hk, rfl, hrow, hb⟩ := hrel; have p2 := af g2 hb.out hs1; obtain ⟨o, ho⟩ := ag (fD x y (es.take k)); have hol : o.length ≤ k := by
   rw [ho]; have := zM x y (es.take k); rw [List.length_take] at this; omega
  rw [← ho] at hrow; by_cases hlt : k < n
  · obtain ⟨b, off, rfl, hB, c0, c1, c2⟩ := ay.at3 (hrd.out.below (hb.out.mono hb1.size)) k (by have := hn.out; omega)
    have hnx := Cf (v := x) (x := y) (es := es) (k := k) (by have := hn.out; omega)
    obtain ⟨f, hf⟩ := ag ((es.getD k e0).1); obtain ⟨l, hll⟩ := ag ((es.getD k e0).2.1); obtain ⟨t, ht⟩ := ag ((es.getD k e0).2.2); have hke : es.getD k e0 = (f, l, t) := by rw [hf, hll, ht]
    rw [← hf] at c0; rw [← hll] at c1; rw [← ht] at c2; rw [← ho, hke] at hnx; have hki : (k : Int) < (n : Int) := by omega
    obtain ⟨w2, hw2⟩ := ag (wr.alloc (.cells #[.int .i64 f, .int .i64 l, .int .i64 t] 36)); have hb2 : Below wr.heap.size wr w2 := by rw [hw2]; exact (Below.refl _ _).alloc (nl _) _
    obtain ⟨e0', e1', e2'⟩ := bT hw2; have hrow2 := (hrow.out.below hb2 (nl _)); have hbz := ae (hb.out.trans (hb2.mono hb.out.size)); have hcf := uH w2 _ o f (hrow2.read.mono hb2.size) (by omega)
    have hct := uH w2 _ o t (hrow2.read.mono hb2.size) (by omega)
    replace hrow2 := ae (hrow2.wide (nl _) hb2.size); replace hf := ae hf; replace hll := ae hll; replace ht := ae ht; replace hke := ae hke; replace ho := ae ho; replace hk := ae hk; replace hw2 := ae hw2; clear hrow; have hsw : w.heap.size ≤ wr.heap.size := Nat.le_trans hb1.size hb.out.size
    rcases Int.lt_trichotomy y 0 with hy0 | hy0 | hy0
    · have hy3 : ¬ 0 < y := by omega
      by_cases q1 : l = y'
      case neg =>
       have q1t : (l == y') = false := by rw [beq_eq_false_iff_ne]; exact q1
       replace hnx := ae (hnx.trans (show fH x y o (f, l, t) = o by unfold fH; rw [if_neg (by rintro ⟨h, _⟩; omega), if_neg (by rintro ⟨_, h, _⟩; exact q1 (by rw [hy2] at h; exact h))]))
       replace q1 := ae q1; go_wp2; rw [← hw2.out]; go_wp2; go_roundg (n - (k + 1))
       case rel => exact ⟨k + 1, by have := hk.out; omega, by go_num, ae (by rw [hnx.out]; exact hrow2.out), hbz⟩
       case measure => have := hk.out; omega
      have q1t : (l == y') = true := by rw [beq_iff_eq]; exact q1
      by_cases q2 : t = x
      case neg =>
       have q2t : (t == x) = false := by rw [beq_eq_false_iff_ne]; exact q2
       replace hnx := ae (hnx.trans (show fH x y o (f, l, t) = o by unfold fH; rw [if_neg (by rintro ⟨h, _⟩; omega), if_neg (by rintro ⟨_, _, h⟩; exact q2 h)]))
       replace q1 := ae q1; replace q2 := ae q2; go_wp2; rw [← hw2.out]; go_wp2; go_roundg (n - (k + 1))
       case rel => exact ⟨k + 1, by have := hk.out; omega, by go_num, ae (by rw [hnx.out]; exact hrow2.out), hbz⟩
       case measure => have := hk.out; omega
      have q2t : (t == x) = true := by rw [beq_iff_eq]; exact q2
      replace hnx := ae (hnx.trans (show fH x y o (f, l, t) = fE f o by unfold fH; rw [if_neg (by rintro ⟨h, _⟩; omega), if_pos ⟨hy0, by rw [hy2]; exact q1, q2⟩]))
      replace q1 := ae q1; replace q2 := ae q2; go_wp2_with fail; rw [← hw2.out]; go_wp2_with fail; refine hcf.mono ?_; rintro e w3 ⟨v3, rfl, hrow3, hb3⟩; have hrow3' := ae (show bg w3 w.heap.size w3.heap.size v3 (fD x y (es.take (k + 1))) by rw [hnx.out]; exact hrow3.wide (Nat.le_trans hsw hb2.size) (nl _))
      have hbq := ae (hbz.out.trans (hb3.mono (Nat.le_trans hb.out.size hb2.size))); clear hrow3 hb3 hrow2 hcf hct; go_wp2; go_roundg (n - (k + 1))
      case rel => exact ⟨k + 1, by have := hk.out; omega, by go_num, hrow3', hbq⟩
      case measure => have := hk.out; omega
    · have hy3 : ¬ 0 < y := by omega
      have hy4 : ¬ y < 0 := by omega
      replace hnx := ae (hnx.trans (show fH x y o (f, l, t) = o by unfold fH; rw [if_neg (by rintro ⟨h, _⟩; omega), if_neg (by rintro ⟨h, _⟩; omega)]))
      replace hy0 := ae hy0; go_wp2; rw [← hw2.out]; go_wp2; go_roundg (n - (k + 1))
      case rel => exact ⟨k + 1, by have := hk.out; omega, by go_num, ae (by rw [hnx.out]; exact hrow2.out), hbz⟩
      case measure => have := hk.out; omega
    · have hy4 : ¬ y < 0 := by omega
      by_cases q1 : l = y
      case neg =>
       have q1t : (l == y) = false := by rw [beq_eq_false_iff_ne]; exact q1
       replace hnx := ae (hnx.trans (show fH x y o (f, l, t) = o by unfold fH; rw [if_neg (by rintro ⟨_, h, _⟩; exact q1 h), if_neg (by rintro ⟨h, _⟩; omega)]))
       replace q1 := ae q1; go_wp2; rw [← hw2.out]; go_wp2; go_roundg (n - (k + 1))
       case rel => exact ⟨k + 1, by have := hk.out; omega, by go_num, ae (by rw [hnx.out]; exact hrow2.out), hbz⟩
       case measure => have := hk.out; omega
      have q1t : (l == y) = true := by rw [beq_iff_eq]; exact q1
      by_cases q2 : f = x
      case neg =>
       have q2t : (f == x) = false := by rw [beq_eq_false_iff_ne]; exact q2
       replace hnx := ae (hnx.trans (show fH x y o (f, l, t) = o by unfold fH; rw [if_neg (by rintro ⟨_, _, h⟩; exact q2 h), if_neg (by rintro ⟨h, _⟩; omega)]))
       replace q1 := ae q1; replace q2 := ae q2; go_wp2; rw [← hw2.out]; go_wp2; go_roundg (n - (k + 1))
       case rel => exact ⟨k + 1, by have := hk.out; omega, by go_num, ae (by rw [hnx.out]; exact hrow2.out), hbz⟩
       case measure => have := hk.out; omega
      have q2t : (f == x) = true := by rw [beq_iff_eq]; exact q2
      replace hnx := ae (hnx.trans (show fH x y o (f, l, t) = fE t o by unfold fH; rw [if_pos ⟨hy0, q1, q2⟩]))
      replace q1 := ae q1; replace q2 := ae q2; go_wp2_with fail; rw [← hw2.out]; go_wp2_with fail; refine hct.mono ?_; rintro e w3 ⟨v3, rfl, hrow3, hb3⟩; have hrow3' := ae (show bg w3 w.heap.size w3.heap.size v3 (fD x y (es.take (k + 1))) by rw [hnx.out]; exact hrow3.wide (Nat.le_trans hsw hb2.size) (nl _))
      have hbq := ae (hbz.out.trans (hb3.mono (Nat.le_trans hb.out.size hb2.size))); clear hrow3 hb3 hrow2 hcf hct; go_wp2; go_roundg (n - (k + 1))
      case rel => exact ⟨k + 1, by have := hk.out; omega, by go_num, hrow3', hbq⟩
      case measure => have := hk.out; omega
  · obtain rfl : k = n := by omega
    have hfull : es.take k = es := List.take_of_length_le (by rw [← hn.out]; omega)
    rw [hfull] at ho; have hki : ¬ (k : Int) < (k : Int) := by omega
    have hbz := hb1.trans (hb.out.mono hb1.size); replace ho := ae ho; replace hfull := ae hfull; go_wp2; go_ret; exact ⟨_, rfl, by rw [← ho.out]; exact hrow.out, hbz⟩
theorem jY {x y : Int} : ∀ {l : List Int}, y ∈ fE x l ↔ y = x ∨ y ∈ l := by
 intro l
 induction l with
 | nil => rw [Az]; simp
 | cons z zs ih =>
  rcases Int.lt_trichotomy z x with h | h | h
  · rw [yK zs h, List.mem_cons, ih, List.mem_cons]
    constructor
    · rintro (h1 | h1 | h1)
      · exact .inr (.inl h1)
      · exact .inl h1
      · exact .inr (.inr h1)
    · rintro (h1 | h1 | h1)
      · exact .inr (.inl h1)
      · exact .inl h1
      · exact .inr (.inr h1)
  · rw [yA zs h]
    constructor
    · intro h1; exact .inr h1
    · rintro (h1 | h1)
      · rw [h1, ← h]; exact List.mem_cons_self
      · exact h1
  · rw [yI zs h, List.mem_cons]
def yh (v x : Int) (e : Ed) (y : Int) : Prop := (0 < x ∧ e.2.1 = x ∧ e.1 = v ∧ y = e.2.2) ∨ (x < 0 ∧ e.2.1 = wrap64 (-x) ∧ e.2.2 = v ∧ y = e.1)
theorem Ic {v x y : Int} {acc : List Int} {e : Ed} : y ∈ fH v x acc e ↔ y ∈ acc ∨ yh v x e y := by
 unfold fH yh; split
 · rename_i h
   rw [jY]; constructor
   · rintro (h1 | h1)
     · exact .inr (.inl ⟨h.1, h.2.1, h.2.2, h1⟩)
     · exact .inl h1
   · rintro (h1 | ⟨_, _, _, h1⟩ | ⟨h1, _⟩)
     · exact .inr h1
     · exact .inl h1
     · omega
 · rename_i h
   split
   · rename_i h2
     rw [jY]; constructor
     · rintro (h1 | h1)
       · exact .inr (.inr ⟨h2.1, h2.2.1, h2.2.2, h1⟩)
       · exact .inl h1
     · rintro (h1 | ⟨h1, _⟩ | ⟨_, _, _, h1⟩)
       · exact .inr h1
       · omega
       · exact .inl h1
   · rename_i h2
     constructor
     · intro h1; exact .inl h1
     · rintro (h1 | ⟨a, b, c, _⟩ | ⟨a, b, c, _⟩)
       · exact h1
       · exact absurd ⟨a, b, c⟩ h
       · exact absurd ⟨a, b, c⟩ h2
theorem GV {v x y : Int} : ∀ (es : List Ed) (acc : List Int), y ∈ es.foldl (fH v x) acc ↔ y ∈ acc ∨ ∃ e ∈ es, yh v x e y := by
 intro es
 induction es with
 | nil => intro acc; simp
 | cons e es ih =>
  intro acc; rw [List.foldl_cons, ih, Ic]; constructor
  · rintro ((h | h) | ⟨d, hd, h⟩)
    · exact .inl h
    · exact .inr ⟨e, List.mem_cons_self, h⟩
    · exact .inr ⟨d, List.mem_cons_of_mem _ hd, h⟩
  · rintro (h | ⟨d, hd, h⟩)
    · exact .inl (.inl h)
    · rcases List.mem_cons.1 hd with h1 | h1
      · rw [h1] at h; exact .inl (.inr h)
      · exact .inr ⟨d, h1, h⟩
theorem xA {v x y : Int} {es : List Ed} : y ∈ fD v x es ↔ ∃ e ∈ es, yh v x e y := by
 unfold fD; rw [GV]; simp
theorem qY {x : Int} : ∀ {l : List Int}, l.Pairwise (· < ·) → (fE x l).Pairwise (· < ·) := by
 intro l
 induction l with
 | nil => intro _; rw [Az]; exact List.pairwise_singleton _ _
 | cons z zs ih =>
  intro h; have hp := List.pairwise_cons.1 h
  rcases Int.lt_trichotomy z x with c | c | c
  · rw [yK zs c]
    refine List.pairwise_cons.2 ⟨fun y hy => ?_, ih hp.2⟩
    rcases jY.1 hy with hy | hy
    · rw [hy]; exact c
    · exact hp.1 y hy
  · rw [yA zs c]; exact h
  · rw [yI zs c]
    refine List.pairwise_cons.2 ⟨fun y hy => ?_, h⟩
    rcases List.mem_cons.1 hy with hy | hy
    · rw [hy]; exact c
    · exact Int.lt_trans c (hp.1 y hy)
theorem Ej {v x : Int} {es : List Ed} : (fD v x es).Pairwise (· < ·) := by
 unfold fD; have key : ∀ (es : List Ed) (acc : List Int), acc.Pairwise (· < ·) → (es.foldl (fH v x) acc).Pairwise (· < ·) := by
  intro es
  induction es with
  | nil => intro acc h; exact h
  | cons e es ih =>
   intro acc h; rw [List.foldl_cons]; refine ih _ ?_; unfold fH; split
   · exact qY h
   · split
     · exact qY h
     · exact h
 exact key es [] List.Pairwise.nil
theorem qF : ∀ {a b : List Int}, a.Pairwise (· < ·) → b.Pairwise (· < ·) → (∀ x, x ∈ a ↔ x ∈ b) → a = b := by
 intro a
 induction a with
 | nil =>
  intro b _ _ h
  cases b with
  | nil => rfl
  | cons y ys => exact absurd ((h y).2 List.mem_cons_self) (by simp)
 | cons x xs ih =>
  intro b ha hb h
  cases b with
  | nil => exact absurd ((h x).1 List.mem_cons_self) (by simp)
  | cons y ys =>
   have pa := List.pairwise_cons.1 ha; have pb := List.pairwise_cons.1 hb; have hxy : x = y := by
    rcases List.mem_cons.1 ((h x).1 List.mem_cons_self) with h1 | h1
    · exact h1
    · rcases List.mem_cons.1 ((h y).2 List.mem_cons_self) with h2 | h2
      · exact h2.symm
      · have := pb.1 x h1; have := pa.1 y h2; omega
   subst hxy; rw [ih pa.2 pb.2 (fun z => ?_)]
   constructor
   · intro hz
     rcases List.mem_cons.1 ((h z).1 (List.mem_cons_of_mem _ hz)) with h1 | h1
     · have := pa.1 z hz; omega
     · exact h1
   · intro hz
     rcases List.mem_cons.1 ((h z).2 (List.mem_cons_of_mem _ hz)) with h1 | h1
     · have := pb.1 z hz; omega
     · exact h1
def gK (a b : Ed) : Prop := a.2.1 = b.2.1 ∧ (a.1 = b.1 ∨ a.2.2 = b.2.2)
instance (a b : Ed) : Decidable (gK a b) := by unfold gK; infer_instance
def qB (es : List Ed) (i : Nat) : Nat → Bool
 | 0 => true
 | k + 1 => qB es i k && !decide (gK (es.getD i e0) (es.getD k e0))
def gq (es : List Ed) : Nat → Bool
 | 0 => true
 | k + 1 => gq es k && qB es k k
def bJ (r s : Int) (es : List Ed) : Bool := aK r s es && gq es es.length
theorem yg {es : List Ed} {i : Nat} : ∀ {n : Nat}, qB es i n = true ↔ ∀ k, k < n → ¬ gK (es.getD i e0) (es.getD k e0) := by
 intro n
 induction n with
 | zero => simp [qB]
 | succ n ih =>
  rw [qB, Bool.and_eq_true, ih]; constructor
  · rintro ⟨h1, h2⟩ k hk
    by_cases hkn : k = n
    · subst hkn; simpa using h2
    · exact h1 k (by omega)
  · intro h
    exact ⟨fun k hk => h k (by omega), by simpa using h n (by omega)⟩
theorem lG {es : List Ed} : ∀ {n : Nat}, gq es n = true ↔ ∀ i, i < n → ∀ k, k < i → ¬ gK (es.getD i e0) (es.getD k e0) := by
 intro n
 induction n with
 | zero => simp [gq]
 | succ n ih =>
  rw [gq, Bool.and_eq_true, ih, yg]; constructor
  · rintro ⟨h1, h2⟩ i hi k hk
    by_cases hin : i = n
    · subst hin; exact h2 k hk
    · exact h1 i (by omega) k hk
  · intro h
    exact ⟨fun i hi k hk => h i (by omega) k hk, fun k hk => h n (by omega) k hk⟩
theorem Fz {es : List Ed} {i k n : Nat} (hi : i < n) (hk : k < i) (h : gK (es.getD i e0) (es.getD k e0)) : gq es n = false := by
 cases e : gq es n with
 | false => rfl
 | true => exact absurd h (lG.1 e i hi k hk)
theorem lN {r s : Int} {es : List Ed} (hs : -9223372036854775808 ≤ s) (h : aK r s es = true) {i : Nat} (hi : i < es.length) :
 (0 ≤ (es.getD i e0).1 ∧ (es.getD i e0).1 < s) ∧ (1 ≤ (es.getD i e0).2.1 ∧ (es.getD i e0).2.1 ≤ r) ∧ (0 ≤ (es.getD i e0).2.2 ∧ (es.getD i e0).2.2 < s) := by
 obtain ⟨h1, h2, h3, h4, h5, h6⟩ := dN.1 h; have hp := h1 i hi; unfold cZ edgeOk at hp; simp only [Bool.and_eq_true, decide_eq_true_eq] at hp; have hw : wrap64 (s - 1) = s - 1 := by unfold wrap64; omega
 rw [hw] at hp; omega
theorem aZ {r s : Int} {es : List Ed} (h : aK r s es = true) : 1 ≤ r ∧ r ≤ 3 ∧ 1 ≤ s ∧ s ≤ 40 ∧ es.length ≤ 120 := (dN.1 h).2
def fC (es : List Ed) (v l y : Int) : Prop :=
 ∃ i, i < es.length ∧ ((v = (es.getD i e0).1 ∧ l = (es.getD i e0).2.1 ∧ y = (es.getD i e0).2.2) ∨ (v = (es.getD i e0).2.2 ∧ l = -(es.getD i e0).2.1 ∧ y = (es.getD i e0).1))
theorem Be {es : List Ed} {P : Ed → Prop} : (∃ e ∈ es, P e) ↔ ∃ i, i < es.length ∧ P (es.getD i e0) := by
 constructor
 · rintro ⟨e, he, h⟩
   obtain ⟨i, hi, rfl⟩ := List.getElem_of_mem he; exact ⟨i, hi, by simpa [List.getD_eq_getElem?_getD, hi] using h⟩
 · rintro ⟨i, hi, h⟩
   exact ⟨es[i], List.getElem_mem hi, by simpa [List.getD_eq_getElem?_getD, hi] using h⟩
theorem wW {r s : Int} {es : List Ed} (hg : aK r s es = true) {v l y : Int} (hl : -9223372036854775808 ≤ l ∧ l ≤ 9223372036854775807) : y ∈ fD v l es ↔ fC es v l y := by
 obtain ⟨h2, h3, h4, h5, h6⟩ := aZ hg; rw [xA, Be]; constructor
 · rintro ⟨i, hi, h⟩
   obtain ⟨b1, b2, b3⟩ := lN (by omega) hg hi
   refine ⟨i, hi, ?_⟩
   rcases h with ⟨a, b, c, d⟩ | ⟨a, b, c, d⟩
   · exact .inl ⟨c.symm, b.symm, d⟩
   · refine .inr ⟨c.symm, ?_, d⟩
     unfold wrap64 at b; omega
 · rintro ⟨i, hi, h⟩
   obtain ⟨b1, b2, b3⟩ := lN (by omega) hg hi
   refine ⟨i, hi, ?_⟩
   rcases h with ⟨a, b, c⟩ | ⟨a, b, c⟩
   · exact .inl ⟨by omega, b.symm, a.symm, c⟩
   · exact .inr ⟨by omega, by unfold wrap64; omega, a.symm, c⟩
theorem qm {r s : Int} {es : List Ed} (hg : aK r s es = true) (hf : gq es es.length = true) {v l y z : Int} (h1 : fC es v l y) (h2 : fC es v l z) : y = z := by
 obtain ⟨g2, g3, g4, g5, g6⟩ := aZ hg; obtain ⟨i, hi, h1⟩ := h1; obtain ⟨j, hj, h2⟩ := h2; obtain ⟨b1, b2, b3⟩ := lN (by omega) hg hi
 obtain ⟨c1, c2, c3⟩ := lN (by omega) hg hj
 have hF := lG.1 hf; by_cases hij : i = j
 · subst hij; omega
 · exfalso
   have key : gK (es.getD i e0) (es.getD j e0) ∧ gK (es.getD j e0) (es.getD i e0) := by
    unfold gK
    rcases h1 with ⟨a, b, c⟩ | ⟨a, b, c⟩ <;> rcases h2 with ⟨a', b', c'⟩ | ⟨a', b', c'⟩
    · exact ⟨⟨by omega, .inl (by omega)⟩, ⟨by omega, .inl (by omega)⟩⟩
    · omega
    · omega
    · exact ⟨⟨by omega, .inr (by omega)⟩, ⟨by omega, .inr (by omega)⟩⟩
   rcases Nat.lt_or_ge i j with h | h
   · exact hF j hj i h key.2
   · exact hF i hi j (by omega) key.1
theorem jL {r s : Int} {es : List Ed} (hg : aK r s es = true) {v l y : Int} (h : fC es v l y) : (0 ≤ v ∧ v < s) ∧ (0 ≤ y ∧ y < s) ∧ (-r ≤ l ∧ l ≤ r ∧ l ≠ 0) := by
 obtain ⟨g2, g3, g4, g5, g6⟩ := aZ hg; obtain ⟨i, hi, h⟩ := h; obtain ⟨b1, b2, b3⟩ := lN (by omega) hg hi
 omega
def aV (es : List Ed) (v l : Int) : Int := (fD v l es).headD (-1)
theorem xm {r s : Int} {es : List Ed} (hg : aK r s es = true) (hf : gq es es.length = true) {v l y : Int} (h : fC es v l y) : aV es v l = y := by
 have hv := jL hg h; obtain ⟨g2, g3, g4, g5, g6⟩ := aZ hg; have e : fD v l es = [y] := by
  refine qF Ej (List.pairwise_singleton _ _) fun z => ?_
  rw [wW hg (by omega), List.mem_singleton]
  exact ⟨fun hz => qm hg hf hz h, fun hz => by rw [hz]; exact h⟩
 unfold aV; rw [e]; rfl
theorem Ew {r s : Int} {es : List Ed} (hg : aK r s es = true) {v l : Int} (hl : -9223372036854775808 ≤ l ∧ l ≤ 9223372036854775807) (h : ∀ y, ¬ fC es v l y) : aV es v l = -1 := by
 have e : fD v l es = [] := by
  refine List.eq_nil_iff_forall_not_mem.2 fun y hy => h y ((wW hg hl).1 hy)
 unfold aV; rw [e]; rfl
theorem oZ {r s : Int} {es : List Ed} (hg : aK r s es = true) (hf : gq es es.length = true) {v l : Int} (hl : -9223372036854775808 ≤ l ∧ l ≤ 9223372036854775807) :
 (fC es v l (aV es v l) ∧ 0 ≤ aV es v l ∧ aV es v l < s) ∨ (aV es v l = -1 ∧ ∀ y, ¬ fC es v l y) := by
 by_cases h : ∃ y, fC es v l y
 · obtain ⟨y, hy⟩ := h
   rw [xm hg hf hy]; exact .inl ⟨hy, (jL hg hy).2.1⟩
 · have h' : ∀ y, ¬ fC es v l y := fun y hy => h ⟨y, hy⟩
   exact .inr ⟨Ew hg hl h', h'⟩
def wk (es : List Ed) : Int → List Int → Int × Nat
 | v, [] => (v, 0)
 | v, x :: w => if aV es v x < 0 then (v, 0) else ((wk es (aV es v x) w).1, (wk es (aV es v x) w).2 + 1)
def wC (es : List Ed) (v0 : Int) (w : List Int) (v : Int) (i : Nat) : Prop := i ≤ w.length ∧ wk es v0 w = ((wk es v (w.drop i)).1, i + (wk es v (w.drop i)).2)
theorem xK (es : List Ed) (v0 : Int) (w : List Int) : wC es v0 w v0 0 := by
 refine ⟨Nat.zero_le _, ?_⟩; simp
theorem Cb {es : List Ed} {v0 v : Int} {w : List Int} {i : Nat} (h : wC es v0 w v i) (hi : i = w.length) : wk es v0 w = (v, w.length) := by
 obtain ⟨_, h⟩ := h; rw [h, hi]; simp [wk]
theorem zC {w : List Int} {i : Nat} (hi : i < w.length) : w.drop i = w.getD i 0 :: w.drop (i + 1) := by
 rw [List.drop_eq_getElem_cons hi]; simp [List.getD_eq_getElem?_getD, hi]
theorem y9 {es : List Ed} {v0 v : Int} {w : List Int} {i : Nat} (h : wC es v0 w v i) (hi : i < w.length) (hn : aV es v (w.getD i 0) < 0) : wk es v0 w = (v, i) := by
 obtain ⟨_, h⟩ := h; rw [h, zC hi, wk, if_pos hn]; simp
theorem zi {es : List Ed} {v0 v : Int} {w : List Int} {i : Nat} (h : wC es v0 w v i) (hi : i < w.length) (hn : ¬ aV es v (w.getD i 0) < 0) : wC es v0 w (aV es v (w.getD i 0)) (i + 1) := by
 obtain ⟨h0, h⟩ := h; refine ⟨by omega, ?_⟩
 rw [h, zC hi, wk, if_neg hn]; simp
 omega
def oI (s v : Int) : Bool := decide (0 ≤ v ∧ v < s)
def kD (r s : Int) (es : List Ed) (v : Int) : Bool := bJ r s es && oI s v
def uJ (r s : Int) (es : List Ed) (v : Int) (w : List Int) : Int := if kD r s es v then ((wk es v w).2 : Int) else 0
def gI (r s : Int) (es : List Ed) (v : Int) (w : List Int) : Bool := kD r s es v && decide ((wk es v w).2 = w.length)
def jS (r s : Int) (es : List Ed) (v : Int) (w : List Int) : Int := if gI r s es v w then (wk es v w).1 else -1
def kF (acc : List Int) (e : Ed) : List Int := if e.1 ∈ acc then fE e.2.2 acc else acc
def jq (acc : List Int) (e : Ed) : List Int := if e.2.2 ∈ kF acc e then fE e.1 (kF acc e) else kF acc e
def dm (es : List Ed) (acc : List Int) : List Int := es.foldl jq acc
def di (es : List Ed) : Nat → List Int → List Int
 | 0, acc => acc
 | k + 1, acc => dm es (di es k acc)
def gp (es : List Ed) (v : Int) : List Int := di es (es.length + 1) [v]
theorem gZ {acc : List Int} {e : Ed} {y : Int} : y ∈ jq acc e ↔ y ∈ acc ∨ ((e.1 ∈ acc ∨ e.2.2 ∈ acc) ∧ (y = e.1 ∨ y = e.2.2)) := by
 unfold jq kF; by_cases h1 : e.1 ∈ acc
 · rw [if_pos h1, if_pos (jY.2 (.inl rfl)), jY, jY]
   constructor
   · rintro (h | h | h)
     · exact .inr ⟨.inl h1, .inl h⟩
     · exact .inr ⟨.inl h1, .inr h⟩
     · exact .inl h
   · rintro (h | ⟨_, h | h⟩)
     · exact .inr (.inr h)
     · exact .inl h
     · exact .inr (.inl h)
 · rw [if_neg h1]
   by_cases h2 : e.2.2 ∈ acc
   · rw [if_pos h2, jY]
     constructor
     · rintro (h | h)
       · exact .inr ⟨.inr h2, .inl h⟩
       · exact .inl h
     · rintro (h | ⟨_, h | h⟩)
       · exact .inr h
       · exact .inl h
       · exact .inr (by rw [h]; exact h2)
   · rw [if_neg h2]
     constructor
     · exact fun h => .inl h
     · rintro (h | ⟨h | h, _⟩)
       · exact h
       · exact absurd h h1
       · exact absurd h h2
theorem xY {acc : List Int} {e : Ed} (h : acc.Pairwise (· < ·)) : (kF acc e).Pairwise (· < ·) := by
 unfold kF; split
 · exact qY h
 · exact h
theorem wS {acc : List Int} {e : Ed} (h : acc.Pairwise (· < ·)) : (jq acc e).Pairwise (· < ·) := by
 unfold jq; split
 · exact qY (xY h)
 · exact xY h
theorem yZ : ∀ (es : List Ed) {acc : List Int}, acc.Pairwise (· < ·) → (dm es acc).Pairwise (· < ·) := by
 intro es
 induction es with
 | nil => intro acc h; exact h
 | cons e es ih => intro acc h; exact ih (wS h)
theorem pR (es : List Ed) {acc : List Int} (h : acc.Pairwise (· < ·)) : ∀ k, (di es k acc).Pairwise (· < ·) := by
 intro k
 induction k with
 | zero => exact h
 | succ k ih => exact yZ es ih
theorem lJ : ∀ (es : List Ed) {acc : List Int} {y : Int}, y ∈ acc → y ∈ dm es acc := by
 intro es
 induction es with
 | nil => intro acc y h; exact h
 | cons e es ih => intro acc y h; exact ih (gZ.2 (.inl h))
theorem Eh {acc : List Int} {e : Ed} (ha : acc.Pairwise (· < ·)) (h : e.1 ∈ acc ↔ e.2.2 ∈ acc) : jq acc e = acc := by
 refine qF (wS ha) ha fun y => ?_
 rw [gZ]; constructor
 · rintro (h1 | ⟨h1, h2 | h2⟩)
   · exact h1
   · rw [h2]; rcases h1 with h1 | h1
     · exact h1
     · exact h.2 h1
   · rw [h2]; rcases h1 with h1 | h1
     · exact h.1 h1
     · exact h1
 · exact fun h1 => .inl h1
theorem H9 : ∀ {es : List Ed} {acc : List Int}, acc.Pairwise (· < ·) → (∀ e ∈ es, e.1 ∈ acc ↔ e.2.2 ∈ acc) → dm es acc = acc := by
 intro es
 induction es with
 | nil => intro acc _ _; rfl
 | cons e es ih =>
  intro acc ha h; show dm es (jq acc e) = acc
  rw [Eh ha (h e List.mem_cons_self)]; exact ih ha fun e' he' => h e' (List.mem_cons_of_mem _ he')
theorem pU : ∀ {es : List Ed} {acc : List Int} {e : Ed}, e ∈ es → e.1 ∈ acc ∨ e.2.2 ∈ acc → e.1 ∈ dm es acc ∧ e.2.2 ∈ dm es acc := by
 intro es
 induction es with
 | nil => intro acc e h; cases h
 | cons e' es ih =>
  intro acc e he h; show e.1 ∈ dm es (jq acc e') ∧ e.2.2 ∈ dm es (jq acc e')
  rcases List.mem_cons.1 he with rfl | he
  · exact ⟨lJ es (gZ.2 (.inr ⟨h, .inl rfl⟩)), lJ es (gZ.2 (.inr ⟨h, .inr rfl⟩))⟩
  · exact ih he (h.imp (fun h => gZ.2 (.inl h)) (fun h => gZ.2 (.inl h)))
theorem DZ {es : List Ed} {acc : List Int} (ha : acc.Pairwise (· < ·)) : dm es acc = acc ∨ ∃ e ∈ es, (e.1 ∈ acc ∧ e.2.2 ∉ acc) ∨ (e.2.2 ∈ acc ∧ e.1 ∉ acc) := by
 by_cases h : ∃ e ∈ es, (e.1 ∈ acc ∧ e.2.2 ∉ acc) ∨ (e.2.2 ∈ acc ∧ e.1 ∉ acc)
 · exact .inr h
 · refine .inl (H9 ha fun e he => ?_)
   constructor
   · intro h1
     by_cases h2 : e.2.2 ∈ acc
     · exact h2
     · exact absurd ⟨e, he, .inl ⟨h1, h2⟩⟩ h
   · intro h1
     by_cases h2 : e.1 ∈ acc
     · exact h2
     · exact absurd ⟨e, he, .inr ⟨h1, h2⟩⟩ h
theorem cnt_le {α : Type} {p q : α → Bool} : ∀ {l : List α}, (∀ x ∈ l, p x = true → q x = true) → l.countP p ≤ l.countP q := by
 intro l
 induction l with
 | nil => intro _; simp
 | cons a l ih =>
  intro h; have h1 := ih fun x hx => h x (List.mem_cons_of_mem _ hx)
  have h2 := h a List.mem_cons_self; rw [List.countP_cons, List.countP_cons]
  cases hp : p a
  · simp; omega
  · rw [h2 hp]; simp; exact h1
theorem cnt_lt {α : Type} {p q : α → Bool} : ∀ {l : List α}, (∀ x ∈ l, p x = true → q x = true) → (∃ x ∈ l, q x = true ∧ p x = false) → l.countP p + 1 ≤ l.countP q := by
 intro l
 induction l with
 | nil => rintro _ ⟨x, hx, _⟩; cases hx
 | cons a l ih =>
  rintro h ⟨x, hx, h1, h2⟩; rw [List.countP_cons, List.countP_cons]
  rcases List.mem_cons.1 hx with rfl | hx
  · have := cnt_le (l := l) (p := p) (q := q) fun y hy => h y (List.mem_cons_of_mem _ hy)
    rw [h1, h2]; simp; exact this
  · have i := ih (fun y hy => h y (List.mem_cons_of_mem _ hy)) ⟨x, hx, h1, h2⟩
    have h3 := h a List.mem_cons_self
    cases hp : p a
    · simp; omega
    · rw [h3 hp]; simp; omega
def Hu (es : List Ed) (acc : List Int) : Nat := es.countP fun e => decide (e.1 ∈ acc ∧ e.2.2 ∈ acc)
def ui (s : Nat) (acc : List Int) : Nat := (List.range s).countP fun (u : Nat) => decide ((u : Int) ∈ acc)
theorem FK (es : List Ed) (acc : List Int) : Hu es acc ≤ es.length := List.countP_le_length
theorem Gh (s : Nat) (acc : List Int) : ui s acc ≤ s := by
 have : ui s acc ≤ (List.range s).length := List.countP_le_length; simpa using this
theorem I4 {es : List Ed} {acc : List Int} (h : ∃ e ∈ es, (e.1 ∈ acc ∧ e.2.2 ∉ acc) ∨ (e.2.2 ∈ acc ∧ e.1 ∉ acc)) : Hu es acc + 1 ≤ Hu es (dm es acc) := by
 obtain ⟨e, he, h⟩ := h; refine cnt_lt (fun x hx hp => ?_) ⟨e, he, ?_, ?_⟩
 · have hp' := of_decide_eq_true hp
   exact decide_eq_true ⟨lJ es hp'.1, lJ es hp'.2⟩
 · exact decide_eq_true (pU (acc := acc) he (by rcases h with h | h <;> simp [h.1]))
 · rw [decide_eq_false_iff_not]
   rintro ⟨h1, h2⟩
   rcases h with h | h
   · exact h.2 h2
   · exact h.2 h1
def iC (s : Nat) (es : List Ed) : Prop := ∀ e ∈ es, (0 ≤ e.1 ∧ e.1 < (s : Int)) ∧ (0 ≤ e.2.2 ∧ e.2.2 < (s : Int))
theorem Iy {s : Nat} {es : List Ed} {acc : List Int} (hE : iC s es) (h : ∃ e ∈ es, (e.1 ∈ acc ∧ e.2.2 ∉ acc) ∨ (e.2.2 ∈ acc ∧ e.1 ∉ acc)) : ui s acc + 1 ≤ ui s (dm es acc) := by
 obtain ⟨e, he, h⟩ := h; have hb := pU (acc := acc) he (by rcases h with h | h <;> simp [h.1])
 have hv : ∃ y : Int, 0 ≤ y ∧ y < (s : Int) ∧ y ∈ dm es acc ∧ y ∉ acc := by
  rcases h with h | h
  · exact ⟨e.2.2, (hE e he).2.1, (hE e he).2.2, hb.2, h.2⟩
  · exact ⟨e.1, (hE e he).1.1, (hE e he).1.2, hb.1, h.2⟩
 obtain ⟨y, y0, y1, y2, y3⟩ := hv; have hy : ((y.toNat : Nat) : Int) = y := by omega
 refine cnt_lt (fun x hx hp => decide_eq_true (lJ es (of_decide_eq_true hp))) ⟨y.toNat, List.mem_range.2 (by omega), ?_, ?_⟩
 · rw [hy]; exact decide_eq_true y2
 · rw [hy]; exact decide_eq_false y3
theorem uT {es : List Ed} {acc : List Int} (ha : acc.Pairwise (· < ·)) : ∀ k, (∃ j, j < k ∧ dm es (di es j acc) = di es j acc) ∨ k ≤ Hu es (di es k acc) := by
 intro k
 induction k with
 | zero => exact .inr (Nat.zero_le _)
 | succ k ih =>
  rcases ih with ⟨j, hj, h⟩ | h
  · exact .inl ⟨j, by omega, h⟩
  · rcases DZ (es := es) (pR es ha k) with h2 | h2
    · exact .inl ⟨k, by omega, h2⟩
    · have := I4 h2
      exact .inr (by show k + 1 ≤ Hu es (dm es (di es k acc)); omega)
theorem Dj {s : Nat} {es : List Ed} {acc : List Int} (hE : iC s es) (ha : acc.Pairwise (· < ·)) (h0 : 1 ≤ ui s acc) : ∀ k, (∃ j, j < k ∧ dm es (di es j acc) = di es j acc) ∨ k + 1 ≤ ui s (di es k acc) := by
 intro k
 induction k with
 | zero => exact .inr h0
 | succ k ih =>
  rcases ih with ⟨j, hj, h⟩ | h
  · exact .inl ⟨j, by omega, h⟩
  · rcases DZ (es := es) (pR es ha k) with h2 | h2
    · exact .inl ⟨k, by omega, h2⟩
    · have := Iy hE h2
      exact .inr (by show k + 1 + 1 ≤ ui s (dm es (di es k acc)); omega)
theorem lX {es : List Ed} {acc : List Int} {j : Nat} (h : dm es (di es j acc) = di es j acc) : ∀ m, di es (j + m) acc = di es j acc := by
 intro m
 induction m with
 | zero => rfl
 | succ m ih => show dm es (di es (j + m) acc) = _; rw [ih, h]
theorem BQ {s : Nat} {es : List Ed} {v : Int} (hE : iC s es) (hv : 0 ≤ v ∧ v < (s : Int)) : di es s [v] = gp es v := by
 have ha : [v].Pairwise (fun a b : Int => a < b) := List.pairwise_singleton _ _
 have h0 : 1 ≤ ui s [v] := by
  refine List.one_le_countP_iff.2 ⟨v.toNat, List.mem_range.2 (by omega), ?_⟩
  exact decide_eq_true (by rw [show ((v.toNat : Nat) : Int) = v by omega]; simp)
 have h1 : ∃ j, j < s ∧ dm es (di es j [v]) = di es j [v] := by
  rcases Dj hE ha h0 s with h | h
  · exact h
  · have := Gh s (di es s [v]); omega
 have h2 : ∃ j, j < es.length + 1 ∧ dm es (di es j [v]) = di es j [v] := by
  rcases uT (es := es) ha (es.length + 1) with h | h
  · exact h
  · have := FK es (di es (es.length + 1) [v]); omega
 obtain ⟨j, hj, h1⟩ := h1; obtain ⟨i, hi, h2⟩ := h2; have a1 := lX h1 (s - j); have a2 := lX h1 (s + es.length + 1 - j); have b1 := lX h2 (es.length + 1 - i); have b2 := lX h2 (s + es.length + 1 - i); rw [show j + (s - j) = s by omega] at a1
 rw [show j + (s + es.length + 1 - j) = s + es.length + 1 by omega] at a2
 rw [show i + (es.length + 1 - i) = es.length + 1 by omega] at b1
 rw [show i + (s + es.length + 1 - i) = s + es.length + 1 by omega] at b2
 unfold gp; rw [a1, b1, ← a2, b2]
theorem AP {s : Nat} : ∀ {es : List Ed} {acc : List Int}, iC s es → (∀ y ∈ acc, 0 ≤ y ∧ y < (s : Int)) → ∀ y ∈ dm es acc, 0 ≤ y ∧ y < (s : Int) := by
 intro es
 induction es with
 | nil => intro acc _ h; exact h
 | cons e es ih =>
  intro acc hE h; refine ih (fun e' he' => hE e' (List.mem_cons_of_mem _ he')) fun y hy => ?_
  rcases gZ.1 hy with h1 | ⟨_, h1 | h1⟩
  · exact h y h1
  · rw [h1]; exact (hE e List.mem_cons_self).1
  · rw [h1]; exact (hE e List.mem_cons_self).2
theorem BK {s : Nat} {es : List Ed} {acc : List Int} (hE : iC s es) (h : ∀ y ∈ acc, 0 ≤ y ∧ y < (s : Int)) : ∀ k, ∀ y ∈ di es k acc, 0 ≤ y ∧ y < (s : Int) := by
 intro k
 induction k with
 | zero => exact h
 | succ k ih => exact AP hE ih
def upTo (L : List Int) : Nat → List Int
 | 0 => []
 | k + 1 => if (k : Int) ∈ L then upTo L k ++ [(k : Int)] else upTo L k
theorem sG {L : List Int} {y : Int} : ∀ {k : Nat}, y ∈ upTo L k ↔ y ∈ L ∧ 0 ≤ y ∧ y < (k : Int) := by
 intro k
 induction k with
 | zero =>
  constructor
  · intro h; cases h
  · rintro ⟨_, h1, h2⟩; omega
 | succ k ih =>
  unfold upTo; split
  case isTrue hk =>
   rw [List.mem_append, ih, List.mem_singleton]; constructor
   · rintro (⟨h1, h2, h3⟩ | rfl)
     · exact ⟨h1, h2, by omega⟩
     · exact ⟨hk, by omega, by omega⟩
   · rintro ⟨h1, h2, h3⟩
     by_cases h4 : y = (k : Int)
     · exact .inr h4
     · exact .inl ⟨h1, h2, by omega⟩
  case isFalse hk =>
   rw [ih]; constructor
   · rintro ⟨h1, h2, h3⟩; exact ⟨h1, h2, by omega⟩
   · rintro ⟨h1, h2, h3⟩
     by_cases h4 : y = (k : Int)
     · exact absurd (h4 ▸ h1) hk
     · exact ⟨h1, h2, by omega⟩
theorem vU {L : List Int} : ∀ k : Nat, (upTo L k).Pairwise (· < ·) := by
 intro k
 induction k with
 | zero => exact List.Pairwise.nil
 | succ k ih =>
  unfold upTo; split
  · rw [List.pairwise_append]
    refine ⟨ih, List.pairwise_singleton _ _, fun a ha b hb => ?_⟩
    rw [List.mem_singleton] at hb; have := (sG.1 ha).2.2; omega
  · exact ih
theorem ny (L : List Int) : ∀ k, (upTo L k).length ≤ k := by
 intro k
 induction k with
 | zero => simp [upTo]
 | succ k ih =>
  unfold upTo; split
  · simp; omega
  · omega
theorem sF {s : Nat} {es : List Ed} {v : Int} (hE : iC s es) (hv : 0 ≤ v ∧ v < (s : Int)) : upTo (di es s [v]) s = gp es v := by
 rw [← BQ hE hv]; refine qF (vU s) (pR es (List.pairwise_singleton _ _) s) fun y => ?_
 rw [sG]; constructor
 · exact fun h => h.1
 · intro h
   have := BK hE (acc := [v]) (fun y hy => by rw [List.mem_singleton] at hy; omega) s y h
   exact ⟨h, this.1, this.2⟩
theorem zK {s : Nat} {es : List Ed} {v : Int} (hE : iC s es) (hv : 0 ≤ v ∧ v < (s : Int)) : (gp es v).length ≤ s := by
 rw [← sF hE hv]; exact ny _ _
theorem eY {r s : Int} {es : List Ed} (h : aK r s es = true) : iC s.toNat es := by
 have hl := aZ h; intro e he; obtain ⟨i, hi, rfl⟩ := List.getElem_of_mem he; have := lN (by omega) h hi
 rw [gD, gE hi] at this; simp only [Option.getD_some] at this; omega
def gU (r s : Int) (es : List Ed) (v : Int) : List Int := if aK r s es && oI s v then gp es v else []
theorem zL (r s : Int) (es : List Ed) (v : Int) : (gU r s es v).length ≤ 40 := by
 unfold gU; split
 · rename_i h
   rw [Bool.and_eq_true] at h; have hl := aZ h.1; have hv := of_decide_eq_true h.2; have := zK (eY h.1) (v := v) (by omega)
   omega
 · simp
end Go.Proofs.YtgnomlcjikfdhaaGreat
