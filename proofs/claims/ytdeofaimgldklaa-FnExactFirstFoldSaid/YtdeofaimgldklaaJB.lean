/- Folding, the program: the possible folds. -/
import Derived.Test.YtdeofaimgldklaaJM
import Derived.Test.YtdeofaimgldklaaGP3
import Derived.Test.YtdeofaimgldklaaSGa
import Derived.Deep.LoopGhost
import Derived.Deep.Cut
namespace Go.Proofs.Ytdeofaimgldklaa
open Go.RowKit
set_option linter.unusedVariables false
set_option linter.unusedSimpArgs false

/-- The possible folds of a valid graph. -/
def pfL (r s : Int) (es : List Ed) : List tupF := if isGr r s es = true then foldsF es else []
def BoxE (w : World) (X : Nat) (f l t : Int) : Prop := w.cell? ⟨X, 0, none⟩ = some (.int .i64 f) ∧ w.cell? ⟨X, 1, none⟩ = some (.int .i64 l) ∧ w.cell? ⟨X, 2, none⟩ = some (.int .i64 t)
theorem BoxE.below {w w' : World} {X B : Nat} {f l t : Int} (h : BoxE w X f l t) (hb : Below B w w') (hX : X < B) : BoxE w' X f l t :=
  ⟨below_cell h.1 hb hX, below_cell h.2.1 hb hX, below_cell h.2.2 hb hX⟩
theorem BoxE.grown {w w' : World} {O : Obj} {v : Value} {X : Nat} {f l t : Int} (h : BoxE w X f l t) (hg : (w.alloc O).grownBy w' v.ownBlock) (hX : X < w.heap.size) (hne : v.ownBlock ≠ some X) : BoxE w' X f l t :=
  ⟨grown_cell h.1 hg hX hne, grown_cell h.2.1 hg hX hne, grown_cell h.2.2 hg hX hne⟩
set_option maxRecDepth 100000 in
set_option maxHeartbeats 6400000 in
theorem progFolds (w : World) (r s : Int) (v : Value) (es : List Ed) (h : ReadE w.heap.size w v es) (hl : es.length ≤ 100000000) :
    Calls Try.prog 40 #[.agg #[.int .i64 r, .int .i64 s, v]] w (LwFolds w (pfL r s es)) := by
  obtain ⟨a, cap, rfl, hnc⟩ := h.form
  obtain ⟨n, hn⟩ : ∃ n, n = es.length := ⟨_, rfl⟩
  rw [← hn] at hl hnc ⊢
  rw [← hn] at h
  obtain ⟨w1, hw1⟩ : ∃ w1, w1 = w.alloc (.cells #[.int .i64 r, .int .i64 s, .slice a n cap] 32) := ⟨_, rfl⟩
  have hb1 : Below w.heap.size w w1 := by rw [hw1]; exact (Below.refl _ _).alloc (Nat.le_refl _) _
  have hs1 : w1.heap.size = w.heap.size + 1 := by rw [hw1]; simp
  have hc := progIsGr w1 r s (.slice a n cap) es ((h.below hb1).mono hb1.size) (by omega)
  obtain ⟨B, hB⟩ : ∃ B, B = isGr r s es := ⟨_, rfl⟩
  rw [← hB] at hc
  obtain ⟨g0, g1, g2⟩ := box3 hw1
  obtain ⟨R, hRR⟩ : ∃ R, R = pfL r s es := ⟨_, rfl⟩
  rw [← hRR]
  have hRf : B = false → R = [] := fun h => by rw [hRR]; unfold pfL; rw [← hB, h]; rfl
  have hRt : B = true → R = foldsF es := fun h => by rw [hRR]; unfold pfL; rw [← hB, h]; rfl
  replace hRf := hidI hRf
  replace hRt := hidI hRt
  replace hRR := hidI hRR
  replace hn := hidI hn
  replace hw1 := hidI hw1
  replace h := hidI h
  replace hs1 := hidI hs1
  go_enter Try.func40, Try.ntmps40
  go_wp2_with fail
  rw [← hw1.out]
  refine hc.mono ?_
  rintro e w2 ⟨rfl, hb2⟩
  clear hc
  have hb12 := hb1.trans (hb2.mono hb1.size)
  cases B with
  | false =>
    have hR0 := hRf.out rfl
    have hr : LwFolds w R (.returned (.slice none 0 0)) w2 := by
      rw [hR0]
      exact ⟨none, 0, rfl, (OwnsS.nil (T := 27) (sz := 2) w2 w.heap.size).row (by simp), hb12⟩
    replace hr := hidI hr
    replace hR0 := hidI hR0
    replace hB := hidI hB
    go_wp2
    go_ret
    exact hr.out
  | true =>
  have hg := hidI hB.symm
  have hR1 := hidI (hRt.out rfl)
  replace hB := hidI hB
  have hasc := hidI (asc_of_gr hg.out)
  have hlim := hidI (isGr_iff.1 hg.out).2.2.2.2.2
  have hn120 : n ≤ 120 := by have := hlim.out; have := hn.out; omega
  replace g2 := below_cell g2 hb2 (by have := hs1.out; omega)
  clear g0 g1
  have hs2 : w.heap.size < w2.heap.size := by have := hs1.out; have := hb2.size; omega
  have hrd := hidI (h.out.below hb12)
  replace hb12 := hidI hb12
  have hA := hidI (fun k (hk : k ≤ es.length) => allF_length es k hk)
  have hRw := hidI (rowF_length es)
  have hown0 := hidI (OwnsS.nil (T := 27) (sz := 2) w2 w2.heap.size)
  clear hb2
  go_wp2
  go_loopg [3, 16] n (fun g o i wr => ∃ k : Nat, k + g = n ∧ i = .int .i64 k ∧ Hid (OwnsF wr w2.heap.size o (allF es k)) ∧ Hid (Below w2.heap.size w2 wr))
  case atStart => exact ⟨0, by omega, rfl, hown0, hidI (Below.refl _ _)⟩
  case round =>
    clear hown0
    obtain ⟨k, hk, rfl, hown, hb⟩ := hrel
    have p2 := below_cell g2 hb.out hs2
    obtain ⟨a3, m3, c3, rfl⟩ := hown.out.form3
    by_cases hlt : k < n
    · have hki : (k : Int) < (n : Int) := by omega
      have hread := hrd.out.below (hb.out.mono (Nat.le_of_lt hs2))
      obtain ⟨b, off, hab, hBb, x0, x1, x2⟩ := ReadE.at3 hread k (by have := hn.out; omega)
      subst hab
      obtain ⟨f, hf⟩ : ∃ z, z = (es.getD k e0).1 := ⟨_, rfl⟩
      obtain ⟨l, hll⟩ : ∃ z, z = (es.getD k e0).2.1 := ⟨_, rfl⟩
      obtain ⟨t, ht⟩ : ∃ z, z = (es.getD k e0).2.2 := ⟨_, rfl⟩
      rw [← hf] at x0
      rw [← hll] at x1
      rw [← ht] at x2
      have hke : es.getD k e0 = (f, l, t) := by rw [hf, hll, ht]
      obtain ⟨w3, hw3⟩ : ∃ z, z = wr.alloc (.cells #[.int .i64 f, .int .i64 l, .int .i64 t] 68) := ⟨_, rfl⟩
      have hb3 : Below wr.heap.size wr w3 := by rw [hw3]; exact (Below.refl _ _).alloc (Nat.le_refl _) _
      have hs3 : w3.heap.size = wr.heap.size + 1 := by rw [hw3]; simp
      have hbx : BoxE w3 wr.heap.size f l t := by obtain ⟨q0, q1, q2⟩ := box3 hw3; exact ⟨q0, q1, q2⟩
      obtain ⟨X, hX⟩ : ∃ X, X = wr.heap.size := ⟨_, rfl⟩
      have hwlt := World.ownsRow.lt hown.out
      have hneX : Value.ownBlock (.slice a3 m3 c3) ≠ some X := fun e => by have := (hwlt _ e).2; omega
      have hown3 := hidI (show OwnsF w3 w2.heap.size (.slice a3 m3 c3) (allF es k ++ rowF es k 0) by rw [rowF, List.append_nil]; exact hown.out.later hb3 (Nat.le_refl _))
      have hbz := hidI (show Below w2.heap.size w2 w3 from hb.out.trans (hb3.mono hb.out.size))
      have p3 := below_cell p2 hb3 (by have := hb.out.size; omega)
      have hsX : w2.heap.size ≤ X := by have := hb.out.size; omega
      rw [← hX] at hbx hs3
      have hX3 := hidI (show X < w3.heap.size by omega)
      replace hsX := hidI hsX
      have hbx0 := hidI hbx
      have hneX0 := hidI hneX
      obtain ⟨M, hM⟩ : ∃ M, M = n - (k + 1) := ⟨_, rfl⟩
      have hkM : k + 1 + M = n := by omega
      have hcM : k + 1 ≤ cap := by omega
      have hMn : n - (k + 1) = M := hM.symm
      obtain ⟨c4, hc4⟩ : ∃ z, cap - (k + 1) = z := ⟨_, rfl⟩
      obtain ⟨o4, hAd, hA2⟩ : ∃ o4, (if cap = k + 1 then some (⟨b, off, none⟩ : Addr) else some ⟨b, off + (k + 1) * 3, none⟩) = some ⟨b, o4, none⟩ ∧ (0 < M → o4 = off + (k + 1) * 3) := by
        by_cases h : cap = k + 1
        · exact ⟨off, by rw [if_pos h], fun h0 => by omega⟩
        · exact ⟨off + (k + 1) * 3, by rw [if_neg h], fun _ => rfl⟩
      replace hA2 := hidI hA2
      replace hM := hidI hM
      replace hf := hidI hf
      replace hll := hidI hll
      replace ht := hidI ht
      replace hke := hidI hke
      replace hwlt := hidI hwlt
      replace hread := hidI hread
      replace hs3 := hidI hs3
      replace hk := hidI hk
      clear hneX hbx hown hb hb3
      go_upto_region 7 with fail
      rw [← hw3]
      replace hw3 := hidI hw3
      rw [← hX]
      replace hX := hidI hX
      clear p2 x0 x1 x2
      go_wp2
      clear p3
      go_loopg [3, 27] M (fun g o i wr => ∃ d : Nat, d + g = M ∧ i = .int .i64 d ∧ Hid (OwnsF wr w2.heap.size o (allF es k ++ rowF es k d)) ∧ Hid (Below w2.heap.size w2 wr) ∧ Hid (BoxE wr X f l t ∧ X < wr.heap.size ∧ o.ownBlock ≠ some X))
      case atStart => exact ⟨0, by omega, rfl, hown3, hbz, hidI ⟨hbx0.out, hX3.out, hneX0.out⟩⟩
      case round =>
        clear hown3 hbz hbx0 hX3 hneX0
        obtain ⟨d, hd, rfl, hown, hb, hbx⟩ := hrel
        obtain ⟨a5, m5, c5, rfl⟩ := hown.out.form3
        by_cases hlt2 : d < M
        · have hdi : (d : Int) < (M : Int) := by omega
          have hread := hrd.out.below (hb.out.mono (Nat.le_of_lt hs2))
          obtain ⟨b', off', hab', hB', y0, y1, y2⟩ := ReadE.at3 hread (k + 1 + d) (by have := hn.out; omega)
          simp only [Option.some.injEq, Addr.mk.injEq, and_true] at hab'
          obtain ⟨rfl, rfl⟩ := hab'
          have hoff : off + (k + 1 + d) * 3 = o4 + d * 3 := by rw [hA2.out (by omega)]; omega
          obtain ⟨f', hf'⟩ : ∃ z, z = (es.getD (k + 1 + d) e0).1 := ⟨_, rfl⟩
          obtain ⟨l', hll'⟩ : ∃ z, z = (es.getD (k + 1 + d) e0).2.1 := ⟨_, rfl⟩
          obtain ⟨t', ht'⟩ : ∃ z, z = (es.getD (k + 1 + d) e0).2.2 := ⟨_, rfl⟩
          rw [← hf', hoff] at y0
          rw [← hll', hoff] at y1
          rw [← ht', hoff] at y2
          have hke' : es.getD (k + 1 + d) e0 = (f', l', t') := by rw [hf', hll', ht']
          have hpr := frc_pair (asc_lt hasc.out (show k < k + 1 + d by omega) (by have := hn.out; omega))
          rw [hke.out, hke'] at hpr
          have hnx : allF es k ++ rowF es k (d + 1) = (allF es k ++ rowF es k d) ++ pairF (f, l, t) (f', l', t') := by rw [rowF, List.append_assoc, hke.out, hke']
          rw [hpr] at hnx
          obtain ⟨L, hL⟩ : ∃ L, L = allF es k ++ rowF es k d := ⟨_, rfl⟩
          have hLl : L.length ≤ 3000000 := by
            have h1 := hRw.out k d
            have h2 := hA.out k (by have := hn.out; omega)
            have h3 : k * es.length ≤ 120 * 120 := Nat.mul_le_mul (by omega) hlim.out
            rw [hL, List.length_append]
            omega
          rw [← hL] at hown hnx
          obtain ⟨w4, hw4⟩ : ∃ z, z = wr.alloc (.cells #[.int .i64 f', .int .i64 l', .int .i64 t'] 68) := ⟨_, rfl⟩
          have hb4 : Below wr.heap.size wr w4 := by rw [hw4]; exact (Below.refl _ _).alloc (Nat.le_refl _) _
          have hs4 : w4.heap.size = wr.heap.size + 1 := by rw [hw4]; simp
          obtain ⟨b0, b1, b2⟩ := box3 hw4
          obtain ⟨x0, x1, x2⟩ := hbx.out.1.below hb4 hbx.out.2.1
          have hcf := progForced w4 f l t f' l' t'
          obtain ⟨⟨kf, df⟩, hF⟩ : ∃ z, z = frcF (f, l, t) (f', l', t') := ⟨_, rfl⟩
          obtain ⟨C, hC⟩ : ∃ z, z = frcB (f, l, t) (f', l', t') := ⟨_, rfl⟩
          rw [← hF, ← hC] at hcf hnx
          unfold LwFoldBool at hcf
          simp only at hcf
          replace hF := hidI hF
          replace hC := hidI hC
          replace hf' := hidI hf'
          replace hll' := hidI hll'
          replace ht' := hidI ht'
          replace hke' := hidI hke'
          replace hpr := hidI hpr
          replace hnx := hidI hnx
          replace hL := hidI hL
          replace hd := hidI hd
          replace hread := hidI hread
          replace hoff := hidI hoff
          have hwlt := hidI (World.ownsRow.lt hown.out)
          go_upto_region 10 with fail
          rw [← hw4]
          replace hw4 := hidI hw4
          clear y0 y1 y2
          go_wp2_with fail
          refine hcf.mono ?_
          rintro e w5 ⟨rfl, hb5⟩
          clear hcf x0 x1 x2 b0 b1 b2
          have hb45 := hb4.trans (hb5.mono (by omega))
          obtain ⟨w6, hw6⟩ : ∃ z, z = w5.alloc (.cells #[.int .i64 kf, .int .i64 df] 27) := ⟨_, rfl⟩
          have hb6 : Below w5.heap.size w5 w6 := by rw [hw6]; exact (Below.refl _ _).alloc (Nat.le_refl _) _
          have hs6 : w6.heap.size = w5.heap.size + 1 := by rw [hw6]; simp
          have hk6 : w6.heap[w5.heap.size]? = some (.cells #[.int .i64 kf, .int .i64 df] 27 (0, 0)) := by rw [hw6]; exact heap_alloc_new _ _
          have hb46 := hb45.trans (hb6.mono hb45.size)
          have hown6 := hidI (hown.out.later hb46 (Nat.le_refl _))
          have hbz6 := hidI (show Below w2.heap.size w2 w6 from hb.out.trans (hb46.mono hb.out.size))
          have hX6 : X < w6.heap.size := by have := hbx.out.2.1; have := hb46.size; omega
          have hbx6 := hidI (show BoxE w6 X f l t ∧ X < w6.heap.size ∧ Value.ownBlock (.slice a5 m5 c5) ≠ some X from ⟨hbx.out.1.below hb46 hbx.out.2.1, hX6, hbx.out.2.2⟩)
          have z0 : w6.cell? ⟨w5.heap.size, 0, none⟩ = some (.int .i64 kf) := by simpa using cell_of_heap hk6 0
          have z1 : w6.cell? ⟨w5.heap.size, 1, none⟩ = some (.int .i64 df) := by simpa using cell_of_heap hk6 1
          clear hown hb hbx hb4 hb5 hb45 hb6 hb46 hk6
          replace hs4 := hidI hs4
          replace hs6 := hidI hs6
          go_upto_region 11 with fail
          rw [← hw6]
          replace hw6 := hidI hw6
          cases C with
          | false =>
            have hown9 := hidI (show OwnsF w6 w2.heap.size (.slice a5 m5 c5) (allF es k ++ rowF es k (d + 1)) by rw [hnx.out, if_neg (by simp), List.append_nil]; exact hown6.out)
            replace hC := hidI hC.out
            go_wp2
            go_roundg (M - (d + 1))
            case rel => exact ⟨d + 1, by have := hd.out; omega, by go_num, hown9, hbz6, hbx6⟩
            case measure => have := hd.out; omega
          | true =>
            have hnx2 := hidI (show allF es k ++ rowF es k (d + 1) = L ++ [(kf, df)] by rw [hnx.out, if_pos rfl])
            go_wp2_with (at_builtin; go_must (refine wpList_pushF_at rfl _ _ rfl w2.heap.size (.slice a5 m5 c5) L _ _ rfl rfl (by exact hown6.out) (by omega) hbz6.out.size ?_))
            intro v7 w7 hown7 hg7 hloc7
            obtain ⟨a7, m7, c7, rfl⟩ := hown7.form3
            have hbz7 := hidI (show Below w2.heap.size w2 w7 from (hbz6.out.alloc hbz6.out.size _).grown hg7 (by have := hbz6.out.size; simp; omega) (fun q hq => (World.ownsRow.lt hown6.out q hq).1))
            have hbx7 := hidI (show BoxE w7 X f l t ∧ X < w7.heap.size ∧ Value.ownBlock (.slice a7 m7 c7) ≠ some X from ⟨hbx6.out.1.grown hg7 hX6 hbx6.out.2.2, by have := hg7.size; simp at this; omega, fun e => by
              rcases hloc7 with h | h
              · exact hbx6.out.2.2 (h ▸ e)
              · rw [h] at e; simp at e; omega⟩)
            have hown9 := hidI (show OwnsF w7 w2.heap.size (.slice a7 m7 c7) (allF es k ++ rowF es k (d + 1)) by rw [hnx2.out]; exact hown7)
            clear hown7 hg7 hloc7
            go_wp2
            go_roundg (M - (d + 1))
            case rel => exact ⟨d + 1, by have := hd.out; omega, by go_num, hown9, hbz7, hbx7⟩
            case measure => have := hd.out; omega
        · have hdi : ¬ (d : Int) < (M : Int) := by omega
          obtain rfl : d = M := by omega
          have hown9 := hidI (show OwnsF wr w2.heap.size (.slice a5 m5 c5) (allF es (k + 1)) by rw [allF_next, ← hn.out, ← hM.out]; exact hown.out)
          replace hd := hidI hd
          go_wp2
          go_roundg (n - (k + 1))
          case rel => exact ⟨k + 1, by have := hk.out; omega, by go_num, hown9, hb⟩
          case measure => have := hk.out; omega
    · obtain rfl : k = n := by omega
      have hki : ¬ (k : Int) < (k : Int) := by omega
      have hr : LwFolds w R (.returned (.slice a3 m3 c3)) wr := by
        have hRl : R.length ≤ 4000000 := by
          have h2 := hA.out es.length (Nat.le_refl _)
          have h3 : es.length * es.length ≤ 120 * 120 := Nat.mul_le_mul hlim.out hlim.out
          rw [hR1.out]
          unfold foldsF
          omega
        have hown9 : OwnsF wr w2.heap.size (.slice a3 m3 c3) R := by rw [hR1.out]; unfold foldsF; rw [← hn.out]; exact hown.out
        have hrow := OwnsS.row hown9 (by omega)
        have hm := hrow.cap.1
        subst hm
        exact ⟨_, _, rfl, hrow.wide (Nat.le_of_lt hs2) (Nat.le_refl _), hb12.out.trans (hb.out.mono hb12.out.size)⟩
      replace hr := hidI hr
      replace hk := hidI hk
      go_wp2
      go_ret
      exact hr.out
end Go.Proofs.Ytdeofaimgldklaa
