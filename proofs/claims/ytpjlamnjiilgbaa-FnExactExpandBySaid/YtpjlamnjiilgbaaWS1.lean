/- Words, the model: InvertWord, ReduceLetters, MultiplyWords. -/
import Derived.Test.YtpjlamnjiilgbaaSI
import Derived.Test.YtpjlamnjiilgbaaMW
import Derived.Deep.AppendLies
namespace Go.Proofs.Ytpjlamnjiilgbaa
open Go.RowKit
set_option linter.unusedVariables false

theorem below_dN {B : Nat} {a w : World} (h : Below B a w) (n : Nat) : Below B a (w.drewN n) := ⟨h.os, h.tape, h.output, h.size, h.block⟩
theorem intsRet_owns {w w' : World} {base : Nat} {v : Value} {zs : List Int} (h : OwnsI w' base v zs) (hb : Below w.heap.size w w') (hB : w.heap.size ≤ base) (hl : zs.length ≤ 140737488355328) : IntsRet w zs (.returned v) w' :=
  ⟨v, rfl, (h.row hl).wide hB (Nat.le_refl _), hb⟩
/-- The cell of a readable slice. -/
theorem ReadI.at_ {B : Nat} {w : World} {a : Option Addr} {n cap : Nat} {zs : List Int} (h : ReadI B w (.slice a n cap) zs) (i : Nat) (hi : i < zs.length) :
    ∃ b off, a = some ⟨b, off, none⟩ ∧ b < B ∧ w.cell? ⟨b, off + i, none⟩ = some (.int .i64 (zs.getD i 0)) := by
  obtain ⟨_, a', cap', hv, _, hr⟩ := h
  simp only [Value.slice.injEq] at hv
  obtain ⟨rfl, _, rfl⟩ := hv
  rcases hr with h0 | ⟨b, off, ha, hB, hc⟩
  · rw [h0] at hi; simp at hi
  · exact ⟨b, off, ha, hB, hc i hi⟩

set_option maxHeartbeats 800000 in
theorem specInv (w : World) (v : Value) (zs : List Int) (h : ReadI w.heap.size w v zs) (hl : zs.length ≤ 100000000) :
    Calls Try.prog 15 #[v] w (IntsRet w (invL zs)) := by
  have hread := h
  obtain ⟨_, a, cap, rfl, hq1, hq2⟩ := h
  clear hq1 hq2
  obtain ⟨n, hn⟩ : ∃ n, n = zs.length := ⟨_, rfl⟩
  rw [← hn] at hl hread ⊢
  have hown0 := hidI (OwnsI.lit w)
  have hb0 := (Below.refl w.heap.size w).alloc (Nat.le_refl _) (.cells #[] 3)
  replace hn := hidI hn
  replace hread := hidI hread
  go_enter Try.func15, Try.ntmps15
  go_wp2
  go_loopw [3, 4] (fun vv i wr => ∃ j : Nat, j ≤ n ∧ i = .int .i64 ((j : Int) - 1) ∧ OwnsI wr w.heap.size vv (invL (zs.drop j)) ∧ Below w.heap.size w wr) (fun _ i _ => (intOf i + 1).toNat)
  case atStart => exact ⟨n, Nat.le_refl _, rfl, by rw [List.drop_eq_nil_of_le (by rw [hn.out]; exact Nat.le_refl _)]; exact hown0.out, hb0⟩
  case round =>
    clear hown0 hb0
    obtain ⟨j, hj, rfl, hown, hb⟩ := hrel
    by_cases hj0 : 1 ≤ j
    · obtain ⟨j, rfl⟩ : ∃ i, j = i + 1 := ⟨j - 1, by omega⟩
      obtain ⟨b, off, rfl, hB, hcell⟩ := (hread.out.below hb).at_ j (by have := hn.out; omega)
      obtain ⟨z, hz⟩ : ∃ z, z = zs.getD j 0 := ⟨_, rfl⟩
      have hst := invL_drop zs j (by have := hn.out; omega)
      have hil : (invL (zs.drop (j + 1))).length ≤ 1000000000 := by rw [invL_length, List.length_drop]; have := hn.out; omega
      rw [← hz] at hcell hst
      have hidx : ((j : Int) + 1 - 1) = (j : Int) := by omega
      replace hst := hidI hst
      replace hz := hidI hz
      replace hown := hidI hown
      go_wp2_with (at_builtin; go_must (refine wpList_pushI rfl _ _ rfl w.heap.size _ (invL (zs.drop (j + 1))) _ rfl rfl (by exact hown.out) hil hb.size ?_))
      intro v' w' hown' hb'
      have hown2 : OwnsI w' w.heap.size v' (invL (zs.drop j)) := by rw [hst.out]; exact hown'
      have hb2 := hb.trans hb'
      replace hown2 := hidI hown2
      clear hown' hb' hown hb hil hst
      go_wp2
      go_roundw
      case rel => exact ⟨j, by omega, by go_num, hown2.out, hb2⟩
      case measure => simp [intOf]
    · obtain rfl : j = 0 := by omega
      replace hown := hidI hown
      go_wp2
      go_ret
      exact intsRet_owns hown.out hb (Nat.le_refl _) (by rw [invL_length]; have := hn.out; omega)

theorem OwnsI.form {w : World} {base : Nat} {v : Value} {zs : List Int} (h : OwnsI w base v zs) (h0 : 0 < zs.length) :
    ∃ g cap, v = .slice (some ⟨g, 0, none⟩) zs.length cap ∧ base ≤ g ∧ g < w.heap.size ∧ zs.length ≤ cap := by
  obtain ⟨hl, ⟨rfl, hn⟩ | ⟨g, cap, cur, rfl, hg, hh, hcap, hmax, hsz, htk⟩⟩ := h
  · omega
  · exact ⟨g, cap, rfl, hg, (Array.getElem?_eq_some_iff.1 hh).1, hcap⟩
theorem OwnsI.form_any {w : World} {base : Nat} {v : Value} {zs : List Int} (h : OwnsI w base v zs) : ∃ a cap, v = .slice a zs.length cap := by
  obtain ⟨hl, ⟨rfl, hn⟩ | ⟨g, cap, cur, rfl, hg, hh, hcap, hmax, hsz, htk⟩⟩ := h
  · exact ⟨none, 0, by rw [hn]⟩
  · exact ⟨_, _, rfl⟩
theorem OwnsI.at_ {w : World} {base g n cap : Nat} {zs : List Int} (h : OwnsI w base (.slice (some ⟨g, 0, none⟩) n cap) zs) (hn : n = zs.length) (i : Nat) (hi : i < zs.length) :
    w.cell? ⟨g, i, none⟩ = some (.int .i64 (zs.getD i 0)) := by
  subst hn
  rw [World.ownsRow.cellAt h i (by omega), List.getElem?_map, List.getElem?_eq_getElem hi]
  simp [iv, List.getD_eq_getElem?_getD, hi]
theorem OwnsI.pop {w : World} {base g cap : Nat} {zs : List Int} (h : OwnsI w base (.slice (some ⟨g, 0, none⟩) zs.length cap) zs) (h0 : 0 < zs.length) :
    OwnsI w base (.slice (some ⟨g, 0, none⟩) (zs.length - 1) cap) (zs.take (zs.length - 1)) := by
  obtain ⟨n, hn⟩ : ∃ n, zs.length = n + 1 := ⟨zs.length - 1, by omega⟩
  have hl : (zs.take (zs.length - 1)).length = n := by rw [List.length_take]; omega
  unfold OwnsI at h ⊢
  rw [hl, show zs.length - 1 = n by omega]
  rw [hn] at h
  have e : zs.map iv = (zs.take n).map iv ++ (zs.drop n).map iv := by rw [← List.map_append, List.take_append_drop]
  rw [e] at h
  exact ownsRow_pop (by rw [List.length_map, List.length_take]; omega) h

/-- What a function that hands back a slice of its own, from the head of its block on, leaves. -/
def OwnRet (w : World) (zs : List Int) (e : Ending) (w' : World) : Prop := ∃ v, e = .returned v ∧ OwnsI w' w.heap.size v zs ∧ Below w.heap.size w w'
theorem ownRet_mk {w w' : World} {base : Nat} {v : Value} {zs : List Int} (h : OwnsI w' base v zs) (hb : Below w.heap.size w w') (hB : w.heap.size ≤ base) : OwnRet w zs (.returned v) w' := ⟨v, rfl, h.mono hB, hb⟩
set_option maxHeartbeats 1600000 in
theorem specRed_own (w : World) (v : Value) (zs : List Int) (h : ReadI w.heap.size w v zs) (hl : zs.length ≤ 1000000000) :
    Calls Try.prog 16 #[v] w (OwnRet w (redL zs)) := by
  have hread := h
  obtain ⟨_, a, cap, rfl, hq1, hq2⟩ := h
  clear hq1 hq2
  obtain ⟨n, hn⟩ : ∃ n, n = zs.length := ⟨_, rfl⟩
  rw [← hn] at hl hread ⊢
  have hown0 := hidI (OwnsI.lit w)
  have hb0 := (Below.refl w.heap.size w).alloc (Nat.le_refl _) (.cells #[] 3)
  replace hn := hidI hn
  replace hread := hidI hread
  go_enter Try.func16, Try.ntmps16
  go_wp2
  go_loopw [3, 4, 5] (fun vv i _ wr => ∃ k : Nat, k ≤ n ∧ i = .int .i64 k ∧ OwnsI wr w.heap.size vv (redL (zs.take k)) ∧ Below w.heap.size w wr) (fun _ i _ _ => n - (intOf i).toNat)
  case atStart => exact ⟨0, Nat.zero_le _, rfl, hown0.out, hb0⟩
  case round =>
    clear hown0 hb0
    obtain ⟨k, hk, rfl, hown, hb⟩ := hrel
    by_cases hlt : k < n
    · obtain ⟨b, off, rfl, hB, hcell⟩ := (hread.out.below hb).at_ k (by have := hn.out; omega)
      obtain ⟨x, hx⟩ : ∃ x, x = zs.getD k 0 := ⟨_, rfl⟩
      obtain ⟨o, ho⟩ : ∃ o, o = redL (zs.take k) := ⟨_, rfl⟩
      have hst := redL_take zs k (by have := hn.out; omega)
      have hol : o.length ≤ 1000000000 := by
        rw [ho]
        have := redL_length (zs.take k)
        rw [List.length_take] at this
        omega
      rw [← hx] at hcell hst
      rw [← ho] at hst hown
      have hlt2 : (k : Int) < (n : Int) := by omega
      replace hst := hidI hst
      replace hx := hidI hx
      replace ho := hidI ho
      by_cases h0 : 0 < o.length
      · obtain ⟨g, cap', rfl, hg1, hg2, hcap⟩ := hown.form h0
        have hlast := hown.at_ rfl (o.length - 1) (by omega)
        have hpop := hown.pop h0
        obtain ⟨y, hy⟩ : ∃ y, y = o.getD (o.length - 1) 0 := ⟨_, rfl⟩
        rw [← hy] at hlast
        obtain ⟨m, hm⟩ : ∃ m, m = o.length := ⟨_, rfl⟩
        rw [← hm] at hlast hpop hown hcap h0 hol ⊢
        have hm1 : (m : Int) - 1 ≤ (cap' : Int) := by omega
        have hm0 : (0 : Int) < (m : Int) := by omega
        have hcan : cancels o x = decide (x ≠ 0 ∧ y = ng x ∧ y ≠ x) := by
          unfold cancels
          rw [← hm, hm, ← hy, Bool.eq_iff_iff]
          simp
          omega
        replace hy := hidI hy
        replace hm := hidI hm
        by_cases hx0 : x = 0
        · have hno := hidI (rstep_no (by rw [hcan]; simp [hx0]))
          have hf : (x != 0) = false := by rw [bne_eq_false_iff_eq]; exact hx0
          clear hcan hpop hx0
          go_wp2
          go_quiet (fail)
          rename_i nq
          have hown2 := hown.drewN nq
          have hb2 : Below w.heap.size w (wr.drewN nq) := below_dN hb nq
          have hcell2 : (wr.drewN nq).cell? ⟨b, off + k, none⟩ = some (.int .i64 x) := hcell
          generalize wr.drewN nq = w2 at hown2 hb2 hcell2 ⊢
          have hol2 : o.length ≤ 1000000000 := by rw [← hm.out]; omega
          replace hown := hidI hown
          replace hown2 := hidI hown2
          clear hcell hb hlast
          go_wp2_with (at_builtin; go_must (refine wpList_pushI rfl _ _ rfl w.heap.size _ o _ rfl rfl (by exact hown2.out) hol2 hb2.size ?_))
          intro v' w' hown' hb'
          have hown3 : OwnsI w' w.heap.size v' (redL (zs.take (k + 1))) := by rw [hst.out, hno.out]; exact hown'
          have hb3 := hb2.trans hb'
          replace hown3 := hidI hown3
          clear hown' hb' hown2 hb2 hcell2
          go_wp2
          go_roundw
          case rel => exact ⟨k + 1, by omega, by go_num, hown3.out, hb3⟩
          case measure => simp [intOf]; omega
        · have hf : (x != 0) = true := by rw [bne_iff_ne]; exact hx0
          by_cases hyn : y = ng x
          · have hf2 : (y == wrap64 (-x)) = true := by rw [beq_iff_eq]; exact hyn
            by_cases hyx : y = x
            · have hno := hidI (rstep_no (by rw [hcan]; simp [hyx]))
              have hf3 : (y != x) = false := by rw [bne_eq_false_iff_eq]; exact hyx
              clear hcan hpop hx0 hyn hyx
              go_wp2
              go_quiet (fail)
              rename_i nq
              have hown2 := hown.drewN nq
              have hb2 : Below w.heap.size w (wr.drewN nq) := below_dN hb nq
              have hcell2 : (wr.drewN nq).cell? ⟨b, off + k, none⟩ = some (.int .i64 x) := hcell
              generalize wr.drewN nq = w2 at hown2 hb2 hcell2 ⊢
              have hol2 : o.length ≤ 1000000000 := by rw [← hm.out]; omega
              replace hown := hidI hown
              replace hown2 := hidI hown2
              clear hcell hb hlast
              go_wp2_with (at_builtin; go_must (refine wpList_pushI rfl _ _ rfl w.heap.size _ o _ rfl rfl (by exact hown2.out) hol2 hb2.size ?_))
              intro v' w' hown' hb'
              have hown3 : OwnsI w' w.heap.size v' (redL (zs.take (k + 1))) := by rw [hst.out, hno.out]; exact hown'
              have hb3 := hb2.trans hb'
              replace hown3 := hidI hown3
              clear hown' hb' hown2 hb2 hcell2
              go_wp2
              go_roundw
              case rel => exact ⟨k + 1, by omega, by go_num, hown3.out, hb3⟩
              case measure => simp [intOf]; omega
            · have hyes := hidI (rstep_yes (show cancels o x = true by rw [hcan]; simp only [decide_eq_true_eq]; exact ⟨hx0, hyn, hyx⟩))
              have hf3 : (y != x) = true := by rw [bne_iff_ne]; exact hyx
              clear hcan hx0 hyn hyx
              replace hown := hidI hown
              replace hpop := hidI hpop
              go_wp2
              go_quiet (fail)
              rename_i nq
              have hpop2 := hidI (hpop.out.drewN nq)
              have hb2 : Below w.heap.size w (wr.drewN nq) := below_dN hb nq
              clear hcell hb hlast
              go_wp2
              go_roundw
              case rel => exact ⟨k + 1, by omega, by go_num, by rw [hst.out, hyes.out, ← hm.out]; exact hpop2.out, hb2⟩
              case measure => simp [intOf]; omega
          · have hno := hidI (rstep_no (by rw [hcan]; simp [hyn]))
            have hf2 : (y == wrap64 (-x)) = false := by rw [beq_eq_false_iff_ne]; exact hyn
            clear hcan hpop hx0 hyn
            go_wp2
            go_quiet (fail)
            rename_i nq
            have hown2 := hown.drewN nq
            have hb2 : Below w.heap.size w (wr.drewN nq) := below_dN hb nq
            have hcell2 : (wr.drewN nq).cell? ⟨b, off + k, none⟩ = some (.int .i64 x) := hcell
            generalize wr.drewN nq = w2 at hown2 hb2 hcell2 ⊢
            have hol2 : o.length ≤ 1000000000 := by rw [← hm.out]; omega
            replace hown := hidI hown
            replace hown2 := hidI hown2
            clear hcell hb hlast
            go_wp2_with (at_builtin; go_must (refine wpList_pushI rfl _ _ rfl w.heap.size _ o _ rfl rfl (by exact hown2.out) hol2 hb2.size ?_))
            intro v' w' hown' hb'
            have hown3 : OwnsI w' w.heap.size v' (redL (zs.take (k + 1))) := by rw [hst.out, hno.out]; exact hown'
            have hb3 := hb2.trans hb'
            replace hown3 := hidI hown3
            clear hown' hb' hown2 hb2 hcell2
            go_wp2
            go_roundw
            case rel => exact ⟨k + 1, by omega, by go_num, hown3.out, hb3⟩
            case measure => simp [intOf]; omega
      · have hcan : cancels o x = false := by
          unfold cancels
          simp
          omega
        have hno := hidI (rstep_no hcan)
        have h00 : o.length = 0 := by omega
        have hform := hown.form_any
        rw [h00] at hform
        obtain ⟨a0, c0, rfl⟩ := hform
        replace h00 := hidI h00
        clear hcan
        go_wp2
        go_quiet (fail)
        rename_i nq
        have hown2 := hown.drewN nq
        have hb2 : Below w.heap.size w (wr.drewN nq) := below_dN hb nq
        have hcell2 : (wr.drewN nq).cell? ⟨b, off + k, none⟩ = some (.int .i64 x) := hcell
        generalize wr.drewN nq = w2 at hown2 hb2 hcell2 ⊢
        have hol2 : o.length ≤ 1000000000 := by rw [h00.out]; omega
        replace hown := hidI hown
        replace hown2 := hidI hown2
        clear hcell hb 
        go_wp2_with (at_builtin; go_must (refine wpList_pushI rfl _ _ rfl w.heap.size _ o _ rfl rfl (by exact hown2.out) hol2 hb2.size ?_))
        intro v' w' hown' hb'
        have hown3 : OwnsI w' w.heap.size v' (redL (zs.take (k + 1))) := by rw [hst.out, hno.out]; exact hown'
        have hb3 := hb2.trans hb'
        replace hown3 := hidI hown3
        clear hown' hb' hown2 hb2 hcell2
        go_wp2
        go_roundw
        case rel => exact ⟨k + 1, by omega, by go_num, hown3.out, hb3⟩
        case measure => simp [intOf]; omega
    · obtain rfl : k = n := by omega
      have hlt2 : decide ((k : Int) < (k : Int)) = false := by simp
      have hzs : zs.take k = zs := List.take_of_length_le (by have := hn.out; omega)
      rw [hzs] at hown
      have hrl := redL_length zs
      have hrl2 : (redL zs).length ≤ 1000000000 := by have := hn.out; omega
      have hlit := hidI (OwnsI.lit wr)
      have hx := hidI (((hown.row (by omega)).read).below ((Below.refl wr.heap.size wr).alloc (Nat.le_refl _) (.cells #[] 3)))
      have hrl3 : ([] : List Int).length + (redL zs).length ≤ 1000000000 := by simp; omega
      have hsz : wr.heap.size ≤ (wr.alloc (.cells #[] 3)).heap.size := by simp
      clear hrl
      replace hown := hidI hown
      replace hzs := hidI hzs
      go_wp2_with (at_builtin; go_must (refine wpList_pushAllI rfl _ _ rfl wr.heap.size _ _ [] (redL zs) wr.heap.size rfl rfl (by exact hlit.out) (by exact hx.out) hrl3 (by simp) ?_))
      intro v' w' hown' hb'
      have hown2 : OwnsI w' wr.heap.size v' (redL zs) := hown'
      have hb2 : Below w.heap.size w w' := (hb.alloc hb.size (.cells #[] 3)).trans (hb'.mono hb.size)
      have hs2 := hb.size
      replace hown2 := hidI hown2
      clear hown' hb' hlit hx
      go_wp2
      go_ret
      exact ownRet_mk hown2.out hb2 hs2
theorem specRed (w : World) (v : Value) (zs : List Int) (h : ReadI w.heap.size w v zs) (hl : zs.length ≤ 1000000000) :
    Calls Try.prog 16 #[v] w (IntsRet w (redL zs)) :=
  (specRed_own w v zs h hl).mono fun e w' ⟨v', he, ho, hb⟩ => by
    subst he
    exact intsRet_owns ho hb (Nat.le_refl _) (by have := redL_length zs; omega)
end Go.Proofs.Ytpjlamnjiilgbaa
