/- Folding, the model: the possible folds in order (l7Folds) (tools/hs2.py). -/
import Derived.Test.YtdeofaimgldklaaHS1
import Derived.Test.YtdeofaimgldklaaGS5
import Derived.Deep.LoopGhost
import Derived.Deep.Cut
namespace Go.Proofs.Ytdeofaimgldklaa
open Go.RowKit
set_option linter.unusedVariables false
set_option linter.unusedSimpArgs false

/-- What a function leaves that hands back a slice of folds. -/
def LwFolds (w : World) (l : List tupF) (e : Ending) (w' : World) : Prop :=
  ∃ a cap, e = .returned (.slice a l.length cap) ∧ RowS 27 2 w' w.heap.size w'.heap.size (.slice a l.length cap) l.length (flatF l) ∧ Below w.heap.size w w'
theorem grown_cell {w w' : World} {X : Obj} {v val : Value} {b j : Nat} (h : w.cell? ⟨b, j, none⟩ = some val) (hg : (w.alloc X).grownBy w' v.ownBlock) (hb : b < w.heap.size) (hne : v.ownBlock ≠ some b) : w'.cell? ⟨b, j, none⟩ = some val :=
  (World.cell?_of_block (w := w) (by show w'.heap[b]? = w.heap[b]?; rw [hg.block b (by simp; omega) (fun e => hne e.symm), heap_alloc_old _ _ hb])).trans h
theorem allF_next {es : List Ed} {k : Nat} : allF es (k + 1) = allF es k ++ rowF es k (es.length - (k + 1)) := rfl
set_option maxRecDepth 100000 in
set_option maxHeartbeats 6400000 in
theorem specFolds (w : World) (r s : Int) (v : Value) (es : List Ed) (h : ReadE w.heap.size w v es) (hl : es.length ≤ 1048576) :
    Calls Try.prog 38 #[.agg #[.int .i64 r, .int .i64 s, v]] w (LwFolds w (foldsF es)) := by
  obtain ⟨a, cap, rfl, hnc⟩ := h.form
  obtain ⟨n, hn⟩ : ∃ n, n = es.length := ⟨_, rfl⟩
  have hnn : 2 * (n * n) ≤ 2199023255552 := by
    have : n * n ≤ 1048576 * 1048576 := Nat.mul_le_mul (by omega) (by omega)
    omega
  rw [← hn] at hl hnc ⊢
  rw [← hn] at h
  obtain ⟨w0, hw0⟩ : ∃ w0, w0 = w.alloc (.cells #[.int .i64 r, .int .i64 s, .slice a n cap] 32) := ⟨_, rfl⟩
  have hb0 : Below w.heap.size w w0 := by rw [hw0]; exact (Below.refl _ _).alloc (Nat.le_refl _) _
  have hs0 : w.heap.size < w0.heap.size := by rw [hw0]; simp
  obtain ⟨g0, g1, g2⟩ := box3 hw0
  have hrd := hidI (h.below hb0)
  obtain ⟨w1, hw1⟩ : ∃ z, z = w0.alloc (.cells #[] 27) := ⟨_, rfl⟩
  have hown0 : Hid (OwnsF w1 w0.heap.size (.slice (some ⟨w0.heap.size, 0, none⟩) 0 0) (allF es 0)) := by rw [hw1]; exact hidI (OwnsF.litF w0)
  have hbb0 := hidI (show Below w0.heap.size w0 w1 by rw [hw1]; exact (Below.refl _ _).alloc (Nat.le_refl _) _)
  have hA := fun k (hk : k ≤ es.length) => allF_length es k hk
  have hR := rowF_length es
  obtain ⟨R, hRR⟩ : ∃ R, R = foldsF es := ⟨_, rfl⟩
  rw [← hRR]
  have hfin : allF es n = R := by rw [hRR, hn]; rfl
  replace hfin := hidI hfin
  replace hRR := hidI hRR
  replace hA := hidI hA
  replace hR := hidI hR
  replace hn := hidI hn
  replace h := hidI h
  clear g0 g1
  go_enter Try.func38, Try.ntmps38
  go_upto_region 1 with fail
  rw [← hw0]
  replace hw0 := hidI hw0
  go_upto_region 2 with fail
  rw [← hw1]
  replace hw1 := hidI hw1
  go_wp2
  go_loopg [3, 4, 5, 6, 7] n (fun g o i q5 q6 q7 wr => ∃ k : Nat, k + g = n ∧ i = .int .i64 k ∧ Hid (OwnsF wr w0.heap.size o (allF es k)) ∧ Hid (Below w0.heap.size w0 wr))
  case atStart => exact ⟨0, by omega, rfl, hown0, hbb0⟩
  case round =>
    clear hown0 hbb0
    obtain ⟨k, hk, rfl, hown, hb⟩ := hrel
    have p2 := below_cell g2 hb.out hs0
    obtain ⟨a3, m3, c3, rfl⟩ := hown.out.form3
    by_cases hlt : k < n
    · have hki : (k : Int) < (n : Int) := by omega
      have hin0 := hidI (show OwnsF wr w0.heap.size (.slice a3 m3 c3) (allF es k ++ rowF es k 0) by rw [rowF, List.append_nil]; exact hown.out)
      obtain ⟨M, hM⟩ : ∃ M, M = n - (k + 1) := ⟨_, rfl⟩
      have hAk : (allF es k).length ≤ 2 * (k * n) := by have := hA.out k (by have := hn.out; omega); rw [← hn.out] at this; exact this
      have hkn : k * n + n ≤ n * n := by
        have : (k + 1) * n ≤ n * n := Nat.mul_le_mul_right _ (by omega)
        rw [Nat.succ_mul] at this; omega
      replace hM := hidI hM
      replace hk := hidI hk
      clear hown
      go_wp2
      go_loopg [3, 5, 6, 7] M (fun g o kk q6 q7 wr => ∃ d : Nat, d + g = M ∧ kk = .int .i64 ((k : Int) + 1 + d) ∧ Hid (OwnsF wr w0.heap.size o (allF es k ++ rowF es k d)) ∧ Hid (Below w0.heap.size w0 wr))
      case atStart => exact ⟨0, by omega, by simp, hin0, hb⟩
      case round =>
        clear hin0 hb p2
        obtain ⟨d, hd, rfl, hown, hb⟩ := hrel
        have p2 := below_cell g2 hb.out hs0
        obtain ⟨a3, m3, c3, rfl⟩ := hown.out.form3
        by_cases hlt2 : d < M
        · have hkd : k + 1 + d < n := by have := hM.out; omega
          have hdi : (k : Int) + 1 + (d : Int) < (n : Int) := by omega
          have hread := hrd.out.below (hb.out.mono (Nat.le_of_lt hs0))
          obtain ⟨b, off, hab, hB, x0, x1, x2⟩ := ReadE.at3 hread k (by have := hn.out; omega)
          obtain ⟨b', off', hab', hB', y0, y1, y2⟩ := ReadE.at3 hread (k + 1 + d) (by have := hn.out; omega)
          subst hab
          simp only [Option.some.injEq, Addr.mk.injEq, and_true] at hab'
          obtain ⟨rfl, rfl⟩ := hab'
          have hnx : allF es k ++ rowF es k (d + 1) = (allF es k ++ rowF es k d) ++ pairF (es.getD k e0) (es.getD (k + 1 + d) e0) := by rw [rowF, List.append_assoc]
          obtain ⟨L, hL⟩ : ∃ L, L = allF es k ++ rowF es k d := ⟨_, rfl⟩
          have hLl : L.length ≤ 3000000000000 := by
            have := hR.out k d
            rw [hL, List.length_append]
            have := hM.out
            omega
          rw [← hL] at hown hnx
          obtain ⟨f, hf⟩ : ∃ z, z = (es.getD k e0).1 := ⟨_, rfl⟩
          obtain ⟨l, hll⟩ : ∃ z, z = (es.getD k e0).2.1 := ⟨_, rfl⟩
          obtain ⟨t, ht⟩ : ∃ z, z = (es.getD k e0).2.2 := ⟨_, rfl⟩
          obtain ⟨f', hf'⟩ : ∃ z, z = (es.getD (k + 1 + d) e0).1 := ⟨_, rfl⟩
          obtain ⟨l', hll'⟩ : ∃ z, z = (es.getD (k + 1 + d) e0).2.1 := ⟨_, rfl⟩
          obtain ⟨t', ht'⟩ : ∃ z, z = (es.getD (k + 1 + d) e0).2.2 := ⟨_, rfl⟩
          rw [← hf] at x0
          rw [← hll] at x1
          rw [← ht] at x2
          rw [← hf'] at y0
          rw [← hll'] at y1
          rw [← ht'] at y2
          have hnx2 : allF es k ++ rowF es k (d + 1) = L ++ pairF (f, l, t) (f', l', t') := by rw [hnx, hf, hll, ht, hf', hll', ht']
          have hidx : off + (k + 1 + d) * 3 = off + (k + 1 + d) * 3 := rfl
          obtain ⟨w2, hw2⟩ : ∃ z, z = wr.alloc (.cells #[.int .i64 f, .int .i64 l, .int .i64 t] 68) := ⟨_, rfl⟩
          have hb2 : Below wr.heap.size wr w2 := by rw [hw2]; exact (Below.refl _ _).alloc (Nat.le_refl _) _
          have hs2 : w2.heap.size = wr.heap.size + 1 := by rw [hw2]; simp
          obtain ⟨a0, a1, a2⟩ := box3 hw2
          obtain ⟨w3, hw3⟩ : ∃ z, z = w2.alloc (.cells #[.int .i64 f', .int .i64 l', .int .i64 t'] 68) := ⟨_, rfl⟩
          have hb3 : Below w2.heap.size w2 w3 := by rw [hw3]; exact (Below.refl _ _).alloc (Nat.le_refl _) _
          obtain ⟨b0, b1, b2⟩ := box3 hw3
          have hs3 : w3.heap.size = w2.heap.size + 1 := by rw [hw3]; simp
          have hlta : wr.heap.size < w2.heap.size := by omega
          replace a0 := below_cell a0 hb3 hlta
          replace a1 := below_cell a1 hb3 hlta
          replace a2 := below_cell a2 hb3 hlta
          have hb23 : Below wr.heap.size wr w3 := hb2.trans (hb3.mono (by omega))
          have hwlt := World.ownsRow.lt hown.out
          have hown3 := hidI (hown.out.later hb23 (Nat.le_refl _))
          have hbz := hidI (show Below w0.heap.size w0 w3 from hb.out.trans (hb23.mono hb.out.size))
          have hneA : Value.ownBlock (.slice a3 m3 c3) ≠ some wr.heap.size := fun e => by have := (hwlt _ e).2; omega
          have hneB : Value.ownBlock (.slice a3 m3 c3) ≠ some w2.heap.size := fun e => by have := (hwlt _ e).2; omega
          have hltb : w2.heap.size < w3.heap.size := by omega
          have hlta3 : wr.heap.size < w3.heap.size := by omega
          have y0' := below_cell y0 hb2 (by have := hb.out.size; omega)
          have y1' := below_cell y1 hb2 (by have := hb.out.size; omega)
          have y2' := below_cell y2 hb2 (by have := hb.out.size; omega)
          have p2' := below_cell p2 hb2 (by have := hb.out.size; omega)
          replace hf := hidI hf
          replace hll := hidI hll
          replace ht := hidI ht
          replace hf' := hidI hf'
          replace hll' := hidI hll'
          replace ht' := hidI ht'
          replace hnx := hidI hnx
          replace hnx2 := hidI hnx2
          replace hL := hidI hL
          replace hd := hidI hd
          replace hread := hidI hread
          replace hwlt := hidI hwlt
          replace hneA := hidI hneA
          replace hneB := hidI hneB
          replace hs2 := hidI hs2
          replace hs3 := hidI hs3
          replace hb2 := hidI hb2
          replace hb3 := hidI hb3
          replace hb23 := hidI hb23
          go_upto_region 9 with fail
          rw [← hw2]
          replace hw2 := hidI hw2
          go_upto_region 10 with fail
          rw [← hw3]
          replace hw3 := hidI hw3
          clear y0' y1' y2' p2' x0 x1 x2 y0 y1 y2
          by_cases q1 : l = l'
          case neg =>
            have q1t : (l == l') = false := by rw [beq_eq_false_iff_ne]; exact q1
            have hpf : pairF (f, l, t) (f', l', t') = [] := by unfold pairF; rw [if_neg (fun h => q1 h.1), if_neg (fun h => q1 h.1)]; rfl
            replace hpf := hidI hpf
            replace q1 := hidI q1
            have hown9 := hidI (show OwnsF _ w0.heap.size _ (allF es k ++ rowF es k (d + 1)) by rw [hnx2.out]; rw [hpf.out, List.append_nil]; exact hown3.out)
            go_wp2
            go_roundg (M - (d + 1))
            case rel => exact ⟨d + 1, by have := hd.out; omega, by go_num, hown9, hbz⟩
            case measure => have := hd.out; omega
          have q1t : (l == l') = true := by rw [beq_iff_eq]; exact q1
          by_cases q2 : f = f'
          case pos =>
            by_cases q3 : t = t'
            case pos =>
              subst q2 q3
              have q2t : (f == f) = true := by simp
              have q3t : (t == t) = true := by simp
              have hpf : pairF (f, l, t) (f, l', t) = [(t, t), (f, f)] := by unfold pairF; rw [if_pos ⟨q1, rfl⟩, if_pos ⟨q1, rfl⟩]; simp
              replace hpf := hidI hpf
              replace q1 := hidI q1
              go_wp2_with (at_builtin; go_must (refine wpList_pushF_at rfl _ _ rfl w0.heap.size (.slice a3 m3 c3) L _ _ rfl rfl (by exact hown3.out) (by omega) hbz.out.size ?_))
              intro v4 w4 hown4 hg4 hloc4
              obtain ⟨a4, m4, c4, rfl⟩ := hown4.form3
              have hown4 := hidI hown4
              have hbz4 := hidI (show Below w0.heap.size w0 w4 from (hbz.out.alloc hbz.out.size _).grown hg4 (by have := hbz.out.size; simp; omega) (fun q hq => (World.ownsRow.lt hown3.out q hq).1))
              replace a0 := grown_cell a0 hg4 hlta3 hneA.out
              replace a1 := grown_cell a1 hg4 hlta3 hneA.out
              replace a2 := grown_cell a2 hg4 hlta3 hneA.out
              replace b0 := grown_cell b0 hg4 hltb hneB.out
              replace b1 := grown_cell b1 hg4 hltb hneB.out
              replace b2 := grown_cell b2 hg4 hltb hneB.out
              clear hg4 hloc4
              go_wp2_with (at_builtin; go_must (refine wpList_pushF rfl _ _ rfl w0.heap.size _ (L ++ [(t, t)]) _ _ rfl rfl (by exact hown4.out) (by simp; omega) hbz4.out.size ?_))
              intro v5 w5 hown5 hb5
              obtain ⟨a5, m5, c5, rfl⟩ := hown5.form3
              have hown5 := hidI hown5
              replace hb5 := hidI (hbz4.out.trans hb5)
              have hown9 := hidI (show OwnsF _ w0.heap.size _ (allF es k ++ rowF es k (d + 1)) by rw [hnx2.out]; rw [hpf.out]; (try rw [List.append_nil]); skip; exact hown5.out)
              go_wp2
              go_roundg (M - (d + 1))
              case rel => exact ⟨d + 1, by have := hd.out; omega, by go_num, hown9, hb5⟩
              case measure => have := hd.out; omega
            subst q2
            have q2t : (f == f) = true := by simp
            have q3t : (t == t') = false := by rw [beq_eq_false_iff_ne]; exact q3
            rcases Int.lt_or_gt_of_ne q3 with hc | hc
            · have hpf : pairF (f, l, t) (f, l', t') = [(t, t')] := by unfold pairF; rw [if_pos ⟨q1, rfl⟩, if_neg (fun h => q3 h.2)]; simp only [List.append_nil]; rw [show min t t' = t by omega, show max t t' = t' by omega]
              replace q3 := hidI q3
              replace hpf := hidI hpf
              replace q1 := hidI q1
              go_wp2_with (at_builtin; go_must (refine wpList_pushF_at rfl _ _ rfl w0.heap.size (.slice a3 m3 c3) L _ _ rfl rfl (by exact hown3.out) (by omega) hbz.out.size ?_))
              intro v4 w4 hown4 hg4 hloc4
              obtain ⟨a4, m4, c4, rfl⟩ := hown4.form3
              have hown4 := hidI hown4
              have hbz4 := hidI (show Below w0.heap.size w0 w4 from (hbz.out.alloc hbz.out.size _).grown hg4 (by have := hbz.out.size; simp; omega) (fun q hq => (World.ownsRow.lt hown3.out q hq).1))
              replace a0 := grown_cell a0 hg4 hlta3 hneA.out
              replace a1 := grown_cell a1 hg4 hlta3 hneA.out
              replace a2 := grown_cell a2 hg4 hlta3 hneA.out
              replace b0 := grown_cell b0 hg4 hltb hneB.out
              replace b1 := grown_cell b1 hg4 hltb hneB.out
              replace b2 := grown_cell b2 hg4 hltb hneB.out
              clear hg4 hloc4
              have hown9 := hidI (show OwnsF _ w0.heap.size _ (allF es k ++ rowF es k (d + 1)) by rw [hnx2.out]; rw [hpf.out]; (try rw [List.append_nil]); skip; exact hown4.out)
              go_wp2
              go_roundg (M - (d + 1))
              case rel => exact ⟨d + 1, by have := hd.out; omega, by go_num, hown9, hbz4⟩
              case measure => have := hd.out; omega
            · have hpf : pairF (f, l, t) (f, l', t') = [(t', t)] := by unfold pairF; rw [if_pos ⟨q1, rfl⟩, if_neg (fun h => q3 h.2)]; simp only [List.append_nil]; rw [show min t t' = t' by omega, show max t t' = t by omega]
              replace q3 := hidI q3
              replace hpf := hidI hpf
              replace q1 := hidI q1
              go_wp2_with (at_builtin; go_must (refine wpList_pushF_at rfl _ _ rfl w0.heap.size (.slice a3 m3 c3) L _ _ rfl rfl (by exact hown3.out) (by omega) hbz.out.size ?_))
              intro v4 w4 hown4 hg4 hloc4
              obtain ⟨a4, m4, c4, rfl⟩ := hown4.form3
              have hown4 := hidI hown4
              have hbz4 := hidI (show Below w0.heap.size w0 w4 from (hbz.out.alloc hbz.out.size _).grown hg4 (by have := hbz.out.size; simp; omega) (fun q hq => (World.ownsRow.lt hown3.out q hq).1))
              replace a0 := grown_cell a0 hg4 hlta3 hneA.out
              replace a1 := grown_cell a1 hg4 hlta3 hneA.out
              replace a2 := grown_cell a2 hg4 hlta3 hneA.out
              replace b0 := grown_cell b0 hg4 hltb hneB.out
              replace b1 := grown_cell b1 hg4 hltb hneB.out
              replace b2 := grown_cell b2 hg4 hltb hneB.out
              clear hg4 hloc4
              have hown9 := hidI (show OwnsF _ w0.heap.size _ (allF es k ++ rowF es k (d + 1)) by rw [hnx2.out]; rw [hpf.out]; (try rw [List.append_nil]); skip; exact hown4.out)
              go_wp2
              go_roundg (M - (d + 1))
              case rel => exact ⟨d + 1, by have := hd.out; omega, by go_num, hown9, hbz4⟩
              case measure => have := hd.out; omega
          have q2t : (f == f') = false := by rw [beq_eq_false_iff_ne]; exact q2
          by_cases q3 : t = t'
          case pos =>
            subst q3
            have q3t : (t == t) = true := by simp
            rcases Int.lt_or_gt_of_ne q2 with hc | hc
            · have hpf : pairF (f, l, t) (f', l', t) = [(f, f')] := by unfold pairF; rw [if_neg (fun h => q2 h.2), if_pos ⟨q1, rfl⟩]; simp only [List.nil_append]; rw [show min f f' = f by omega, show max f f' = f' by omega]
              replace q2 := hidI q2
              replace hpf := hidI hpf
              replace q1 := hidI q1
              go_wp2_with (at_builtin; go_must (refine wpList_pushF rfl _ _ rfl w0.heap.size _ L _ _ rfl rfl (by exact hown3.out) (by omega) hbz.out.size ?_))
              intro v5 w5 hown5 hb5
              obtain ⟨a5, m5, c5, rfl⟩ := hown5.form3
              have hown5 := hidI hown5
              replace hb5 := hidI (hbz.out.trans hb5)
              have hown9 := hidI (show OwnsF _ w0.heap.size _ (allF es k ++ rowF es k (d + 1)) by rw [hnx2.out]; rw [hpf.out]; (try rw [List.append_nil]); skip; exact hown5.out)
              go_wp2
              go_roundg (M - (d + 1))
              case rel => exact ⟨d + 1, by have := hd.out; omega, by go_num, hown9, hb5⟩
              case measure => have := hd.out; omega
            · have hpf : pairF (f, l, t) (f', l', t) = [(f', f)] := by unfold pairF; rw [if_neg (fun h => q2 h.2), if_pos ⟨q1, rfl⟩]; simp only [List.nil_append]; rw [show min f f' = f' by omega, show max f f' = f by omega]
              replace q2 := hidI q2
              replace hpf := hidI hpf
              replace q1 := hidI q1
              go_wp2_with (at_builtin; go_must (refine wpList_pushF rfl _ _ rfl w0.heap.size _ L _ _ rfl rfl (by exact hown3.out) (by omega) hbz.out.size ?_))
              intro v5 w5 hown5 hb5
              obtain ⟨a5, m5, c5, rfl⟩ := hown5.form3
              have hown5 := hidI hown5
              replace hb5 := hidI (hbz.out.trans hb5)
              have hown9 := hidI (show OwnsF _ w0.heap.size _ (allF es k ++ rowF es k (d + 1)) by rw [hnx2.out]; rw [hpf.out]; (try rw [List.append_nil]); skip; exact hown5.out)
              go_wp2
              go_roundg (M - (d + 1))
              case rel => exact ⟨d + 1, by have := hd.out; omega, by go_num, hown9, hb5⟩
              case measure => have := hd.out; omega
          have q3t : (t == t') = false := by rw [beq_eq_false_iff_ne]; exact q3
          have hpf : pairF (f, l, t) (f', l', t') = [] := by unfold pairF; rw [if_neg (fun h => q2 h.2), if_neg (fun h => q3 h.2)]; rfl
          replace q2 := hidI q2
          replace q3 := hidI q3
          replace hpf := hidI hpf
          replace q1 := hidI q1
          have hown9 := hidI (show OwnsF _ w0.heap.size _ (allF es k ++ rowF es k (d + 1)) by rw [hnx2.out]; rw [hpf.out]; (try rw [List.append_nil]); skip; exact hown3.out)
          go_wp2
          go_roundg (M - (d + 1))
          case rel => exact ⟨d + 1, by have := hd.out; omega, by go_num, hown9, hbz⟩
          case measure => have := hd.out; omega
        · have hdi : ¬ (k : Int) + 1 + (d : Int) < (n : Int) := by have := hM.out; omega
          obtain rfl : d = M := by omega
          have hown9 := hidI (show OwnsF wr w0.heap.size (.slice a3 m3 c3) (allF es (k + 1)) by rw [allF_next, ← hn.out, ← hM.out]; exact hown.out)
          replace hd := hidI hd
          go_wp2
          go_roundg (n - (k + 1))
          case rel => exact ⟨k + 1, by have := hk.out; omega, by go_num, hown9, hb⟩
          case measure => have := hk.out; omega
    · obtain rfl : k = n := by omega
      have hki : ¬ (k : Int) < (k : Int) := by omega
      have hr : LwFolds w R (.returned (.slice a3 m3 c3)) wr := by
        rw [hfin.out] at hown
        have hRl : R.length ≤ 4000000000000 := by
          have := foldsF_length es
          rw [hRR.out]
          rw [← hn.out] at this
          omega
        have hrow := OwnsS.row hown.out hRl
        have hm := hrow.cap.1
        subst hm
        exact ⟨_, _, rfl, hrow.wide (Nat.le_of_lt hs0) (Nat.le_refl _), hb0.trans (hb.out.mono hb0.size)⟩
      replace hr := hidI hr
      replace hk := hidI hk
      go_wp2
      go_ret
      exact hr.out
end Go.Proofs.Ytdeofaimgldklaa
