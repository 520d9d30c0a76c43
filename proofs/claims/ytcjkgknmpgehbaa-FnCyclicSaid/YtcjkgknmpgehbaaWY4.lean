/- Cyclic words, the model: AreConjugate, DoCommute. -/
import Derived.Test.YtcjkgknmpgehbaaWY3
import Derived.Test.YtcjkgknmpgehbaaWS2
import Derived.Test.YtcjkgknmpgehbaaWSE
namespace Go.Proofs.Ytcjkgknmpgehbaa
open Go.RowKit
set_option linter.unusedVariables false

/-- What a function that hands back a slice of ints and a bool leaves. -/
def IntsBRet (w : World) (zs : List Int) (b : Bool) (e : Ending) (w' : World) : Prop :=
  ∃ v, e = .returned (.tuple #[v, .bool b]) ∧ RowI w' w.heap.size w'.heap.size v zs ∧ Below w.heap.size w w'
theorem intsB_lit (w wr : World) (b : Bool) (hb : Below w.heap.size w wr) (g : Nat) (hg : g = wr.heap.size) : IntsBRet w [] b (.returned (.tuple #[.slice (some ⟨g, 0, none⟩) 0 0, .bool b])) (wr.alloc (.cells #[] 3)) := by
  subst hg
  refine ⟨_, rfl, ?_, hb.alloc hb.size _⟩
  exact ((OwnsI.lit wr).row (by simp)).wide hb.size (Nat.le_refl _)
theorem ReadI.len {B : Nat} {w : World} {a : Option Addr} {n cap : Nat} {zs : List Int} (h : ReadI B w (.slice a n cap) zs) : n = zs.length := by
  obtain ⟨_, a', c', hv', _⟩ := h
  simp only [Value.slice.injEq] at hv'
  exact hv'.2.1
theorem RowI.cap {w : World} {lo hi : Nat} {a : Option Addr} {n c : Nat} {zs : List Int} (h : RowI w lo hi (.slice a n c) zs) : n ≤ c := by
  obtain ⟨hl, ⟨h1, h2⟩ | ⟨g, off, cap, cur, hv, hlo, hhi, hcap, hh, hc⟩⟩ := h
  · simp only [Value.slice.injEq] at h1
    omega
  · simp only [Value.slice.injEq] at hv
    omega
theorem Ints2Ret.both {w w' : World} {z1 z2 : List Int} {e : Ending} (h : Ints2Ret w z1 z2 e w') : ∃ a1 m1 c1 a2 m2 c2, e = .returned (.tuple #[.slice a1 m1 c1, .slice a2 m2 c2]) ∧ RowI w' w.heap.size w'.heap.size (.slice a1 m1 c1) z1 ∧ RowI w' w.heap.size w'.heap.size (.slice a2 m2 c2) z2 ∧ m1 = z1.length ∧ m2 = z2.length ∧ m1 ≤ c1 ∧ Below w.heap.size w w' := by
  obtain ⟨v1, v2, he, h1, h2, h3⟩ := h
  obtain ⟨_, a, cap, hv, _⟩ := h1.read
  obtain ⟨_, a', cap', hv', _⟩ := h2.read
  subst hv
  subst hv'
  exact ⟨_, _, _, _, _, _, he, h1, h2, rfl, rfl, h1.cap, h3⟩
theorem IntsRet.form {w w' : World} {zs : List Int} {e : Ending} (h : IntsRet w zs e w') : ∃ a m c, e = .returned (.slice a m c) ∧ RowI w' w.heap.size w'.heap.size (.slice a m c) zs ∧ m = zs.length ∧ Below w.heap.size w w' := by
  obtain ⟨v, he, h1, h3⟩ := h
  obtain ⟨_, a, cap, hv, _⟩ := h1.read
  subst hv
  exact ⟨_, _, _, he, h1, rfl, h3⟩
/-- The first k letters of a readable slice. -/
theorem ReadI.first {B : Nat} {w : World} {a : Option Addr} {n cap : Nat} {zs : List Int} (h : ReadI B w (.slice a n cap) zs) (k : Nat) (hk : k ≤ zs.length) : ReadI B w (.slice a k cap) (zs.take k) := by
  have hn := h.len
  have hl : (zs.take k).length = k := by rw [List.length_take]; omega
  obtain ⟨h0, a', c', hv, hnil, hr⟩ := h
  simp only [Value.slice.injEq] at hv
  obtain ⟨rfl, _, rfl⟩ := hv
  refine ⟨by omega, a, cap, by rw [hl], ⟨hnil.1, by have := hnil.2; omega⟩, ?_⟩
  rcases hr with h1 | ⟨b, o, hb, hB, hc⟩
  · left; rw [h1]; simp
  · right
    refine ⟨b, o, hb, hB, fun i hi => ?_⟩
    rw [hl] at hi
    rw [hc i (by omega)]
    congr 2
    rw [List.getD_eq_getElem?_getD, List.getD_eq_getElem?_getD, List.getElem?_take, if_pos hi]
set_option maxHeartbeats 800000 in
theorem specComm (w : World) (v0 v1 : Value) (z0 z1 : List Int) (h0 : ReadI w.heap.size w v0 z0) (h1 : ReadI w.heap.size w v1 z1) (hl0 : z0.length ≤ 40000000) (hl1 : z1.length ≤ 40000000) :
    Calls Try.prog 42 #[v0, v1] w (BoolBRet w (decide (mulL z0 z1 = mulL z1 z0))) := by
  have hc1 := specMul w v0 v1 z0 z1 h0 h1 (by omega) (by omega)
  obtain ⟨b, hb⟩ : ∃ b, b = decide (mulL z0 z1 = mulL z1 z0) := ⟨_, rfl⟩
  rw [← hb]
  replace h0 := hidI h0
  replace h1 := hidI h1
  replace hb := hidI hb
  go_enter Try.func42, Try.ntmps42
  go_wp2_with fail
  refine hc1.mono ?_
  rintro e w1 ⟨u1, rfl, hr1, hb1⟩
  have hc2 := specMul w1 v1 v0 z1 z0 ((h1.out.below hb1).mono hb1.size) ((h0.out.below hb1).mono hb1.size) (by omega) (by omega)
  replace hr1 := hidI hr1
  clear hc1
  go_wp2_with fail
  refine hc2.mono ?_
  rintro e w2 ⟨u2, rfl, hr2, hb2⟩
  have hc3 := specEqu w2 w2.heap.size u1 u2 _ _ ((hr1.out.below hb2 (Nat.le_refl _)).read.mono hb2.size) hr2.read
  have hb12 := hb1.trans (hb2.mono hb1.size)
  rw [← hb.out] at hc3
  replace hr2 := hidI hr2
  clear hc2 hb2 hb1
  go_wp2_with fail
  refine hc3.mono ?_
  rintro e w3 ⟨rfl, n, rfl⟩
  clear hc3
  go_wp2
  go_ret
  exact ⟨rfl, below_dN hb12 n⟩
set_option maxHeartbeats 3200000 in
theorem specConj (w : World) (v0 v1 : Value) (z0 z1 : List Int) (h0 : ReadI w.heap.size w v0 z0) (h1 : ReadI w.heap.size w v1 z1) (hl0 : z0.length ≤ 10000000) (hl1 : z1.length ≤ 10000000) :
    Calls Try.prog 25 #[v0, v1] w (IntsBRet w (conjW z0 z1).1 (conjW z0 z1).2) := by
  have hc0 := specCore w v0 z0 h0 (by omega)
  obtain ⟨F, hF⟩ : ∃ F, F = conjW z0 z1 := ⟨_, rfl⟩
  rw [← hF]
  unfold conjW at hF
  have hx := coreL_length z0
  have hy := coreL_length z1
  obtain ⟨x, hxe⟩ : ∃ x, x = (coreL z0).1 := ⟨_, rfl⟩
  obtain ⟨p, hpe⟩ : ∃ p, p = (coreL z0).2 := ⟨_, rfl⟩
  obtain ⟨y, hye⟩ : ∃ y, y = (coreL z1).1 := ⟨_, rfl⟩
  obtain ⟨q, hqe⟩ : ∃ q, q = (coreL z1).2 := ⟨_, rfl⟩
  rw [← hxe, ← hye, ← hpe, ← hqe] at hF
  rw [← hxe, ← hpe] at hx hc0
  rw [← hye, ← hqe] at hy
  replace h0 := hidI h0
  replace h1 := hidI h1
  replace hF := hidI hF
  replace hxe := hidI hxe
  replace hpe := hidI hpe
  replace hye := hidI hye
  replace hqe := hidI hqe
  go_enter Try.func25, Try.ntmps25
  go_wp2_with fail
  refine hc0.mono ?_
  intro e w1 hr
  obtain ⟨xa, n, xc, pa, pm, pc, rfl, hx1, hp1, hnx, hpm, hnc, hb1⟩ := hr.both
  have hc1 := specCore w1 v1 z1 ((h1.out.below hb1).mono hb1.size) (by omega)
  rw [← hye.out, ← hqe.out] at hc1
  replace hx1 := hidI hx1
  replace hp1 := hidI hp1
  replace hnx := hidI hnx
  replace hpm := hidI hpm
  clear hc0 hr
  go_wp2_with fail
  refine hc1.mono ?_
  intro e w2 hr
  obtain ⟨ya, m, yc, qa, qm, qc, rfl, hy2, hq2, hmy, hqm, _, hb2'⟩ := hr.both
  have hb2 := hb1.trans (hb2'.mono hb1.size)
  have hs12 := hb2'.size
  have hx2 := hidI ((hx1.out.below hb2' (Nat.le_refl _)).read.mono hs12)
  have hp2 := hidI ((hp1.out.below hb2' (Nat.le_refl _)).read.mono hs12)
  replace hy2 := hidI hy2.read
  replace hq2 := hidI hq2.read
  replace hmy := hidI hmy
  replace hqm := hidI hqm
  have hnl : n ≤ 10000000 := by have := hnx.out; omega
  have hml : m ≤ 10000000 := by have := hmy.out; omega
  clear hc1 hr hx1 hp1 hb2' hb1
  by_cases hne : n = m
  · subst hne
    have hnn : ((n : Int) != (n : Int)) = false := by simp
    by_cases hn0 : n = 0
    · subst hn0
      have hr : IntsBRet w F.1 F.2 (.returned (.tuple #[.slice (some ⟨w2.heap.size, 0, none⟩) 0 0, .bool true])) (w2.alloc (.cells #[] 3)) := by
        have e : F = ([], true) := by
          rw [hF.out, if_neg (by have := hnx.out; have := hmy.out; omega), if_pos hnx.out.symm]
        rw [e]
        exact intsB_lit w w2 true hb2 _ rfl
      replace hr := hidI hr
      go_wp2
      go_ret2
      exact hr.out
    · have hn0f : ((n : Int) == 0) = false := by rw [beq_eq_false_iff_ne]; omega
      have hF2 : F = conjO x p q (conjK x y n 0) := by
        rw [hF.out, if_neg (by have := hnx.out; have := hmy.out; omega), if_neg (by have := hnx.out; omega), ← hnx.out]
      replace hF2 := hidI hF2
      go_wp2
      go_loopw [10] (fun i wr => ∃ k : Nat, k ≤ n ∧ i = .int .i64 k ∧ Hid (conjK x y (n - k) k = conjK x y n 0) ∧ Hid (Below w2.heap.size w2 wr)) (fun i _ => n - (intOf i).toNat)
      case atStart => exact ⟨0, Nat.zero_le _, rfl, hidI rfl, hidI (Below.refl _ _)⟩
      case round =>
        obtain ⟨k, hk, rfl, hck, hb⟩ := hrel
        have hs := hb.out.size
        have hxr := hidI ((hx2.out.below hb.out).mono hs)
        by_cases hlt : k < n
        · have hrot := specRot wr _ x (k : Int) hxr.out (by have := hnx.out; omega) (by omega) (by omega)
          rw [rotL_nat] at hrot
          have hlt2 : (k : Int) < (n : Int) := by omega
          go_wp2_with fail
          refine hrot.mono ?_
          rintro e w3 ⟨v3, rfl, hr3, hb3'⟩
          have hs3 := hb3'.size
          have hy3 := hidI ((hy2.out.below (hb.out.trans (hb3'.mono hs))).mono (show w2.heap.size ≤ w3.heap.size by omega))
          have heq := specEqu w3 w3.heap.size v3 _ _ _ hr3.read hy3.out
          have hb3 := hidI (hb.out.trans (hb3'.mono hs))
          obtain ⟨b, hbv⟩ : ∃ b, b = decide (rotN x k = y) := ⟨_, rfl⟩
          rw [← hbv] at heq
          replace hr3 := hidI hr3
          clear hrot hb3'
          go_wp2_with fail
          refine heq.mono ?_
          rintro e w4 ⟨rfl, nq, hwq⟩
          have hb4 := hidI (show Below w2.heap.size w2 w4 by rw [hwq]; exact below_dN hb3.out nq)
          have hs4 := hb4.out.size
          clear heq hwq
          cases b with
          | true =>
            have hyes : rotN x k = y := of_decide_eq_true hbv.symm
            have hk2 : conjK x y n 0 = some k := by
              rw [← hck.out]
              obtain ⟨f, hf⟩ : ∃ f, n - k = f + 1 := ⟨n - k - 1, by omega⟩
              rw [hf]
              exact conjK_yes hyes
            have hFk : F = (mulL (mulL p (x.take k)) (invL q), true) := by rw [hF2.out, hk2]; rfl
            have hp4 := (hp2.out.below hb4.out).mono hs4
            have hx4 := ((hx2.out.below hb4.out).mono hs4).first k (by have := hnx.out; omega)
            have hm1 := specMul w4 _ _ p (x.take k) hp4 hx4 (by omega) (by rw [List.length_take]; omega)
            have hml1 : (mulL p (x.take k)).length ≤ 20000000 := by have := mulL_length p (x.take k); rw [List.length_take] at this; omega
            obtain ⟨M, hM⟩ : ∃ M, M = mulL p (x.take k) := ⟨_, rfl⟩
            rw [← hM] at hm1 hFk hml1
            have hkc : (k : Int) ≤ (xc : Int) := by omega
            replace hyes := hidI hyes
            replace hk2 := hidI hk2
            replace hFk := hidI hFk
            replace hbv := hidI hbv
            replace hM := hidI hM
            replace hp4 := hidI hp4
            replace hx4 := hidI hx4
            go_wp2_with fail
            refine hm1.mono ?_
            intro e w5 hr
            obtain ⟨ma, mm, mc, rfl, hr5, hmm, hb5'⟩ := hr.form
            have hs5 := hb5'.size
            have hb5 := hb4.out.trans (hb5'.mono hs4)
            have hi := specInv w5 _ q ((hq2.out.below hb5).mono (show w2.heap.size ≤ w5.heap.size by omega)) (by omega)
            replace hr5 := hidI hr5
            replace hmm := hidI hmm
            clear hm1 hr
            go_wp2_with fail
            refine hi.mono ?_
            rintro e w6 ⟨v6, rfl, hr6, hb6'⟩
            have hs6 := hb6'.size
            have hb6 := hb5.trans (hb6'.mono (by omega))
            have hm2 := specMul w6 _ v6 M (invL q) ((hr5.out.below hb6' (Nat.le_refl _)).read.mono hs6) hr6.read (by omega) (by rw [invL_length]; omega)
            replace hr6 := hidI hr6
            clear hi hb6' hb5' hb5
            go_wp2_with fail
            refine hm2.mono ?_
            rintro e w7 ⟨v7, rfl, hr7, hb7'⟩
            have hr : IntsBRet w F.1 F.2 (.returned (.tuple #[v7, .bool true])) w7 := by
              rw [hFk.out]
              exact ⟨v7, rfl, hr7.wide (by have := hb2.size; omega) (Nat.le_refl _), hb2.trans ((hb6.trans (hb7'.mono (by omega))).mono hb2.size)⟩
            replace hr := hidI hr
            clear hm2 hr7 hb7' hb6
            go_wp2
            go_ret2
            exact hr.out
          | false =>
            have hno : ¬ rotN x k = y := of_decide_eq_false hbv.symm
            have hck2 : conjK x y (n - (k + 1)) (k + 1) = conjK x y n 0 := by
              rw [← hck.out]
              obtain ⟨f, hf⟩ : ∃ f, n - k = f + 1 := ⟨n - k - 1, by omega⟩
              rw [hf, conjK_no hno]
              congr 1
              omega
            replace hno := hidI hno
            replace hck2 := hidI hck2
            replace hbv := hidI hbv
            clear hr3 hy3 hxr
            go_wp2
            go_roundw
            case rel => exact ⟨k + 1, by omega, by go_num, hck2, hb4⟩
            case measure => simp [intOf]; omega
        · obtain rfl : k = n := by omega
          have hFn : F = ([], false) := by
            have h9 : conjK x y k 0 = none := by rw [← hck.out, Nat.sub_self]; rfl
            rw [hF2.out, h9]
            rfl
          have hr : IntsBRet w F.1 F.2 (.returned (.tuple #[.slice (some ⟨wr.heap.size, 0, none⟩) 0 0, .bool false])) (wr.alloc (.cells #[] 3)) := by
            rw [hFn]
            exact intsB_lit w wr false (hb2.trans (hb.out.mono hb2.size)) _ rfl
          replace hr := hidI hr
          replace hFn := hidI hFn
          go_wp2
          go_ret2
          exact hr.out
  · have hnn : ((n : Int) != (m : Int)) = true := by rw [bne_iff_ne]; omega
    have hr : IntsBRet w F.1 F.2 (.returned (.tuple #[.slice (some ⟨w2.heap.size, 0, none⟩) 0 0, .bool false])) (w2.alloc (.cells #[] 3)) := by
      have e : F = ([], false) := by
        rw [hF.out, if_pos (by have := hnx.out; have := hmy.out; omega)]
      rw [e]
      exact intsB_lit w w2 false hb2 _ rfl
    replace hr := hidI hr
    replace hne := hidI hne
    go_wp2
    go_ret2
    exact hr.out
end Go.Proofs.Ytcjkgknmpgehbaa
