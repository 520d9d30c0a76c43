/- Bases: ExpandBy, the model and the program. -/
import Derived.Test.YtpjlamnjiilgbaaKL
import Derived.Test.YtpjlamnjiilgbaaWF
import Derived.Test.YtpjlamnjiilgbaaWS1
import Derived.Test.YtpjlamnjiilgbaaLS1
import Derived.Test.YtpjlamnjiilgbaaSA
import Derived.Laws.CopyOwn
import Derived.Deep.LoopGhost
import Derived.Deep.Cut
namespace Go.Proofs.Ytpjlamnjiilgbaa
open Go.RowKit
set_option linter.unusedVariables false
set_option linter.unusedSimpArgs false

theorem below_cell9 {B : Nat} {w w' : World} {b off : Nat} {v : Value} (h : w.cell? ⟨b, off, none⟩ = some v) (hb : Below B w w') (hlt : b < B) : w'.cell? ⟨b, off, none⟩ = some v := by
  rw [hb.cell (p := ⟨b, off, none⟩) hlt]; exact h
theorem ownsI_kept9 {w w' : World} {base : Nat} {v : Value} {zs : List Int} (h : OwnsI w base v zs) (hb : Below w.heap.size w w') : OwnsI w' base v zs := by
  have hlt := World.ownsRow.lt h
  obtain ⟨h1, h2 | ⟨g, cap, cur, rfl, hg, hh, hr⟩⟩ := h
  · exact ⟨h1, .inl h2⟩
  · exact ⟨h1, .inr ⟨g, cap, cur, rfl, hg, (hb.block g (hlt g rfl).2).trans hh, hr⟩⟩
theorem readI_set9 {w : World} {g k : Nat} {v u : Value} {zs : List Int} (h : ReadI w.heap.size w v zs) (hne : zs = [] ∨ ∀ b, v.ownBlock = some b → b ≠ g) : ReadI w.heap.size (w.setCell ⟨g, k, none⟩ u) v zs := by
  obtain ⟨h1, a, cap, rfl, h2, h3⟩ := h
  rcases hne with h0 | hne
  · exact ⟨h1, a, cap, rfl, h2, .inl h0⟩
  rcases h3 with h3 | ⟨b, off, rfl, hb, hc⟩
  · exact ⟨h1, a, cap, rfl, h2, .inl h3⟩
  · refine ⟨h1, _, cap, rfl, h2, .inr ⟨b, off, rfl, hb, fun i hi => ?_⟩⟩
    rw [World.cell?_of_block (w := w) (a := (⟨b, off + i, none⟩ : Addr)) (Below.heap_setCell w ⟨g, k, none⟩ u b (hne b rfl))]
    exact hc i hi
theorem readI_low9 {lo : Nat} {w : World} {v : Value} {zs : List Int} (h : ReadI lo w v zs) : zs = [] ∨ ∀ b, v.ownBlock = some b → b < lo := by
  obtain ⟨h1, a, cap, rfl, h2, h3 | ⟨b, off, rfl, hb, hc⟩⟩ := h
  · exact .inl h3
  · exact .inr fun b' e => by cases e; exact hb
theorem rowI_at9 {w : World} {lo hi : Nat} {v : Value} {zs : List Int} (h : RowI w lo hi v zs) : ∀ b, v.ownBlock = some b → lo ≤ b ∧ b < hi := by
  obtain ⟨hl, ⟨rfl, _⟩ | ⟨g, off, cap, cur, rfl, h1, h2, h3⟩⟩ := h
  · intro b e; cases e
  · intro b e; cases e; exact ⟨h1, h2⟩
theorem rowI_form9 {w : World} {lo hi : Nat} {v : Value} {zs : List Int} (h : RowI w lo hi v zs) : ∃ a m c, v = Value.slice a m c := by
  obtain ⟨_, ⟨rfl, _⟩ | ⟨g, off, cap, cur, rfl, _⟩⟩ := h <;> exact ⟨_, _, _, rfl⟩
set_option maxRecDepth 100000 in
set_option maxHeartbeats 6400000 in
theorem specExpand (w : World) (vb vn : Value) (B : List (List Int)) (ns : List Int) (h : ReadSS w.heap.size w vb B) (hn : ReadI w.heap.size w vn ns) (hin : InR ns) (hl : ns.length ≤ 1048576) (hz : ∀ i, i < B.length → (B.getD i []).length ≤ 1048576) (hBl : B.length ≤ 1048576) :
    Calls Try.prog 5 #[vb, vn] w (IntsRet w (exL B ns)) := by
  have h' := h
  obtain ⟨_, ab, cb, rfl, _, _⟩ := h'
  have hn' := hn
  obtain ⟨_, an, cn, rfl, _, _⟩ := hn'
  obtain ⟨m, hm⟩ : ∃ m, m = B.length := ⟨_, rfl⟩
  obtain ⟨n, hnn⟩ : ∃ n, n = ns.length := ⟨_, rfl⟩
  rw [← hnn] at hn hl ⊢
  rw [← hm] at h hBl ⊢
  obtain ⟨w1, hw1⟩ : ∃ z, z = w.alloc (.cells #[] 3) := ⟨_, rfl⟩
  have hb1 : Below w.heap.size w w1 := by rw [hw1]; exact (Below.refl _ _).alloc (Nat.le_refl _) _
  have hown1 : OwnsI w1 w.heap.size (.slice (some ⟨w.heap.size, 0, none⟩) 0 0) [] := by rw [hw1]; exact OwnsI.lit w
  obtain ⟨F, hF⟩ : ∃ F, F = exL B ns := ⟨_, rfl⟩
  rw [← hF]
  have hw1s := hidI hw1.symm
  replace hw1 := hidI hw1
  replace hF := hidI hF
  replace hm := hidI hm
  replace hnn := hidI hnn
  replace h := hidI h
  replace hn := hidI hn
  replace hin := hidI hin
  replace hz := hidI hz
  have hst1 : Hid (OwnsI w1 w.heap.size (.slice (some ⟨w.heap.size, 0, none⟩) 0 0) (facs B (ns.take 0))) := hidI hown1
  clear hown1
  replace hb1 := hidI hb1
  go_enter Try.func5, Try.ntmps5
  go_upto_region 2 with fail
  rw [hw1s.out]
  go_wp2
  go_loopg [5, 6] (200 + n) (fun g u iv_ wr => ∃ i : Nat, i + g = 200 + n ∧ i ≤ 200 ∧ i ≤ n ∧ iv_ = .int .i64 i ∧ Hid (OwnsI wr w.heap.size u (facs B (ns.take i))) ∧ Hid (Below w.heap.size w wr))
  case atStart => exact ⟨0, by omega, by omega, by omega, rfl, hst1, hb1⟩
  case round =>
    clear hst1 hb1
    obtain ⟨i, hi, hi2, hin2, rfl, hst, hb⟩ := hrel
    have hsr := hb.out.size
    obtain ⟨ua, um, uc, rfl⟩ : ∃ a m c, u5 = Value.slice a m c := by
      obtain ⟨h1, ⟨h2, _⟩ | ⟨g, cap, cur, h2, _⟩⟩ := hst.out <;> exact ⟨_, _, _, h2⟩
    have hfl : (facs B (ns.take i)).length ≤ 209715200 := by
      have h1 := facs_len hz.out (ns.take i)
      have h2 : (ns.take i).length ≤ 200 := by rw [List.length_take]; omega
      have h3 : (ns.take i).length * 1048576 ≤ 200 * 1048576 := Nat.mul_le_mul_right _ h2
      omega
    by_cases hgo : i < n ∧ i < 200
    case neg =>
      have hfull : ns.take i = ns.take 200 := by
        by_cases q : i < 200
        · rw [List.take_of_length_le (by have := hnn.out; omega), List.take_of_length_le (by have := hnn.out; omega)]
        · have : i = 200 := by omega
          rw [this]
      have hcr := specRed wr (.slice ua um uc) (facs B (ns.take i)) ((hst.out.row (by omega)).read) (by omega)
      have hFe : redL (facs B (ns.take i)) = F := by rw [hF.out, hfull]; rfl
      rw [hFe] at hcr
      replace hfull := hidI hfull
      replace hFe := hidI hFe
      replace hst := hidI hst
      replace hi := hidI hi
      by_cases q : i < n
      · have q1 : (i : Int) < (n : Int) := by omega
        have q2 : ¬ (i : Int) < 200 := by omega
        replace hgo := hidI hgo
        go_wp2_with fail
        refine hcr.mono ?_
        rintro e w3 ⟨v3, rfl, hrow3, hb3⟩
        have hfin : IntsRet w F (.returned v3) w3 := ⟨_, rfl, hrow3.wide hsr (Nat.le_refl _), hb.out.trans (hb3.mono hsr)⟩
        replace hfin := hidI hfin
        clear hcr hrow3 hb3
        go_wp2
        go_ret
        exact hfin.out
      · have q1 : ¬ (i : Int) < (n : Int) := by omega
        replace hgo := hidI hgo
        go_wp2_with fail
        refine hcr.mono ?_
        rintro e w3 ⟨v3, rfl, hrow3, hb3⟩
        have hfin : IntsRet w F (.returned v3) w3 := ⟨_, rfl, hrow3.wide hsr (Nat.le_refl _), hb.out.trans (hb3.mono hsr)⟩
        replace hfin := hidI hfin
        clear hcr hrow3 hb3
        go_wp2
        go_ret
        exact hfin.out
    obtain ⟨hgn, hg2⟩ := hgo
    have q1 : (i : Int) < (n : Int) := by omega
    have q2 : (i : Int) < 200 := by omega
    have hil : i < ns.length := by have := hnn.out; omega
    obtain ⟨bn, on, hna, hbn, c0⟩ := (hn.out.below hb.out).at2 i hil
    subst hna
    have hx := hin.out.getD i hil
    have hstep := facs_take (B := B) hil
    obtain ⟨x, hxx⟩ : ∃ x, x = ns.getD i 0 := ⟨_, rfl⟩
    rw [← hxx] at c0 hx hstep
    have hfl2 := facL_len hz.out x
    obtain ⟨AC, hAC⟩ : ∃ t, t = facs B (ns.take i) := ⟨_, rfl⟩
    rw [← hAC] at hst hstep hfl
    replace hAC := hidI hAC
    replace hxx := hidI hxx
    replace hi := hidI hi
    have hnone : facL B x = [] → Hid (OwnsI wr w.heap.size (.slice ua um uc) (facs B (ns.take (i + 1)))) := fun q => hidI (by rw [hstep, q, List.append_nil]; exact hst.out)
    replace hnone := hidI hnone
    replace hstep := hidI hstep
    by_cases hp : 0 < x
    · by_cases hle : x ≤ (m : Int)
      · obtain ⟨j, rfl⟩ : ∃ j : Nat, x = (j : Int) + 1 := ⟨(x - 1).toNat, by omega⟩
        have hjm : j < m := by omega
        have hjl : j < B.length := by have := hm.out; omega
        obtain ⟨bb, ob, ub, hba, hbb, c1, hr1⟩ := h.out.at_ j hjl
        subst hba
        have c1w := below_cell9 c1 hb.out hbb
        have hfe := facL_pos hjl
        have hwl := hz.out j hjl
        obtain ⟨Wd, hWd⟩ : ∃ t, t = B.getD j [] := ⟨_, rfl⟩
        rw [← hWd] at hr1 hfe hwl
        have hr1w := hr1.below hb.out
        replace hWd := hidI hWd
        replace hfe := hidI hfe
        have hjk : (j : Int) + 1 - 1 = (j : Int) := by omega
        have hji : (j : Int) < (m : Int) := by omega
        have hg1 : (0 : Int) < (j : Int) + 1 := by omega
        clear c1 hp
        replace hr1w := hidI hr1w
        replace hr1 := hidI hr1
        obtain ⟨av, mv, cv, rfl⟩ := hr1.out.form
        go_wp2_with (at_builtin; go_must (refine wpList_pushAllI rfl _ _ rfl w.heap.size (.slice ua um uc) (.slice av mv cv) AC _ w.heap.size rfl rfl (by exact hst.out) (by exact hr1w.out) (by omega) (by omega) ?_))
        intro v' w4 ho4 hb4
        have hst4 : Hid (OwnsI w4 w.heap.size v' (facs B (ns.take (i + 1)))) := hidI (by rw [hstep.out, hfe.out]; exact ho4)
        have hbz := hidI (hb.out.trans hb4)
        clear ho4 hb4
        go_wp2
        go_roundg (200 + n - (i + 1))
        case rel => exact ⟨i + 1, by have := hi.out; omega, by omega, by omega, by go_num, hst4, hbz⟩
        case measure => have := hi.out; omega
      · have hn2 := hnone.out (facL_out (by have := hm.out; omega) (by omega))
        have hx0 : ¬ x < 0 := by omega
        replace hstep := hidI hstep
        go_wp2
        go_roundg (200 + n - (i + 1))
        case rel => exact ⟨i + 1, by have := hi.out; omega, by omega, by omega, by go_num, hn2, hb⟩
        case measure => have := hi.out; omega
    · by_cases hneg : x < 0
      · have hwm : IntKind.i64.wrap (-(m : Int)) = -(m : Int) := IntWalk.i64_in _ (by omega)
        by_cases hge : -(m : Int) ≤ x
        · obtain ⟨j, hj⟩ : ∃ j : Nat, x = -((j : Int) + 1) := ⟨(-x - 1).toNat, by omega⟩
          have hjm : j < m := by omega
          have hjl : j < B.length := by have := hm.out; omega
          obtain ⟨bb, ob, ub, hba, hbb, c1, hr1⟩ := h.out.at_ j hjl
          subst hba
          have c1w := below_cell9 c1 hb.out hbb
          have hfe := facL_neg hjl
          rw [← hj] at hfe
          have hwl := hz.out j hjl
          obtain ⟨Wd, hWd⟩ : ∃ t, t = B.getD j [] := ⟨_, rfl⟩
          rw [← hWd] at hr1 hfe hwl
          have hr1w := (hr1.below hb.out).mono hsr
          replace hWd := hidI hWd
          replace hfe := hidI hfe
          have hwx : IntKind.i64.wrap (-x) = (j : Int) + 1 := by rw [hj]; rw [IntWalk.i64_in _ (by omega)]; omega
          have hji : (j : Int) < (m : Int) := by omega
          obtain ⟨av, mv, cv, hub⟩ := hr1.form
          subst hub
          have hinv := specInv wr (.slice av mv cv) Wd hr1w (by omega)
          clear c1 hr1
          replace hj := hidI hj
          replace hr1w := hidI hr1w
          go_wp2_with fail
          refine hinv.mono ?_
          rintro e w3 ⟨v3, rfl, hrow3, hb3⟩
          clear hinv
          obtain ⟨a3, m3, c3, rfl⟩ := rowI_form9 hrow3
          have hst3 : Hid (OwnsI w3 w.heap.size (.slice ua um uc) AC) := hidI (ownsI_kept9 hst.out hb3)
          have hrd3 := hidI hrow3.read
          have hs3 := hb3.size
          have hb13 := hidI (hb.out.trans (hb3.mono hsr))
          have hil3 : (invL Wd).length ≤ 1048576 := by rw [invL_length]; exact hwl
          clear hrow3 hb3
          go_wp2_with (at_builtin; go_must (refine wpList_pushAllI rfl _ _ rfl w.heap.size (.slice ua um uc) (.slice a3 m3 c3) AC _ w3.heap.size rfl rfl (by exact hst3.out) (by exact hrd3.out) (by omega) (by omega) ?_))
          intro v' w4 ho4 hb4
          have hst4 : Hid (OwnsI w4 w.heap.size v' (facs B (ns.take (i + 1)))) := hidI (by rw [hstep.out, hfe.out]; exact ho4)
          have hbz := hidI (hb13.out.trans hb4)
          clear ho4 hb4
          go_wp2
          go_roundg (200 + n - (i + 1))
          case rel => exact ⟨i + 1, by have := hi.out; omega, by omega, by omega, by go_num, hst4, hbz⟩
          case measure => have := hi.out; omega
        · have hn2 := hnone.out (facL_out (by omega) (by have := hm.out; omega))
          go_wp2
          go_roundg (200 + n - (i + 1))
          case rel => exact ⟨i + 1, by have := hi.out; omega, by omega, by omega, by go_num, hn2, hb⟩
          case measure => have := hi.out; omega
      · have hn2 := hnone.out (facL_out (by omega) (by omega))
        go_wp2
        go_roundg (200 + n - (i + 1))
        case rel => exact ⟨i + 1, by have := hi.out; omega, by omega, by omega, by go_num, hn2, hb⟩
        case measure => have := hi.out; omega
/-- What factorOf leaves. -/
def FacRet (lo : Nat) (w : World) (zs : List Int) (e : Ending) (w' : World) : Prop := ∃ a m c, e = .returned (.slice a m c) ∧ ReadI w'.heap.size w' (.slice a m c) zs ∧ (zs = [] ∨ ∀ b, (Value.slice a m c).ownBlock = some b → b < lo ∨ w.heap.size ≤ b) ∧ Below w.heap.size w w'
set_option maxHeartbeats 3200000 in
theorem factor_any (lo : Nat) (w : World) (vb : Value) (B : List (List Int)) (x : Int) (hlo : lo ≤ w.heap.size) (h : ReadSS lo w vb B) (hx : -9223372036854775808 ≤ x ∧ x ≤ 9223372036854775807) (hz : ∀ i, i < B.length → (B.getD i []).length ≤ 1048576) (hBl : B.length ≤ 1048576) :
    Calls Try.prog 17 #[vb, .int .i64 x] w (FacRet lo w (facL B x)) := by
  have h' := h
  obtain ⟨_, ab, cb, rfl, _, _⟩ := h'
  obtain ⟨m, hm⟩ : ∃ m, m = B.length := ⟨_, rfl⟩
  rw [← hm] at h hBl ⊢
  have hnil : facL B x = [] → FacRet lo w (facL B x) (.returned (.slice none 0 0)) w := fun q => by
    rw [q]; exact ⟨_, _, _, rfl, ⟨by simp, none, 0, rfl, ⟨fun _ => rfl, by simp⟩, .inl rfl⟩, .inl rfl, Below.refl _ _⟩
  replace hnil := hidI hnil
  replace hm := hidI hm
  replace h := hidI h
  replace hz := hidI hz
  by_cases hp : 1 ≤ x
  · by_cases hle : x ≤ (m : Int)
    · obtain ⟨j, rfl⟩ : ∃ j : Nat, x = (j : Int) + 1 := ⟨(x - 1).toNat, by omega⟩
      have hjm : j < m := by omega
      have hjl : j < B.length := by have := hm.out; omega
      obtain ⟨bb, ob, ub, hba, hbb, c1, hr1⟩ := h.out.at_ j hjl
      subst hba
      obtain ⟨av, mv, cv, rfl⟩ := hr1.form
      have hfin : FacRet lo w (facL B ((j : Int) + 1)) (.returned (.slice av mv cv)) w := by rw [facL_pos hjl]; exact ⟨_, _, _, rfl, hr1.mono hlo, (readI_low9 hr1).imp id fun q b e => .inl (q b e), Below.refl _ _⟩
      replace hfin := hidI hfin
      replace hr1 := hidI hr1
      have hji : (j : Int) < (m : Int) := by omega
      go_enter Try.func17, Try.ntmps17
      go_wp2
      go_ret
      exact hfin.out
    · have hfin := hidI (hnil.out (facL_out (by have := hm.out; omega) (by omega)))
      have hx0 : ¬ x ≤ -1 := by omega
      go_enter Try.func17, Try.ntmps17
      go_wp2
      go_ret
      exact hfin.out
  · by_cases hneg : x ≤ -1
    · have hwm : IntKind.i64.wrap (-(m : Int)) = -(m : Int) := IntWalk.i64_in _ (by omega)
      by_cases hge : -(m : Int) ≤ x
      · obtain ⟨j, hj⟩ : ∃ j : Nat, x = -((j : Int) + 1) := ⟨(-x - 1).toNat, by omega⟩
        have hjm : j < m := by omega
        have hjl : j < B.length := by have := hm.out; omega
        obtain ⟨bb, ob, ub, hba, hbb, c1, hr1⟩ := h.out.at_ j hjl
        subst hba
        have hfe := hidI (facL_neg hjl)
        rw [← hj] at hfe
        have hwx : IntKind.i64.wrap (-x) = (j : Int) + 1 := by rw [hj]; rw [IntWalk.i64_in _ (by omega)]; omega
        have hji : (j : Int) < (m : Int) := by omega
        obtain ⟨av, mv, cv, hub⟩ := hr1.form
        subst hub
        have hinv := invert_any w (.slice av mv cv) (B.getD j []) (hr1.mono hlo) (by have := hz.out j hjl; omega)
        replace hr1 := hidI hr1
        replace hj := hidI hj
        go_enter Try.func17, Try.ntmps17
        go_wp2_with fail
        refine hinv.mono ?_
        rintro e w3 ⟨v3, rfl, hrow3, hb3⟩
        clear hinv
        obtain ⟨a3, m3, c3, rfl⟩ := rowI_form9 hrow3
        have hfin : FacRet lo w (facL B x) (.returned (.slice a3 m3 c3)) w3 := by rw [hfe.out]; exact ⟨_, _, _, rfl, hrow3.read, .inr fun b e => .inr (rowI_at9 hrow3 b e).1, hb3⟩
        replace hfin := hidI hfin
        clear hrow3 hb3
        go_wp2
        go_ret
        exact hfin.out
      · have hfin := hidI (hnil.out (facL_out (by omega) (by have := hm.out; omega)))
        go_enter Try.func17, Try.ntmps17
        go_wp2
        go_ret
        exact hfin.out
    · have hfin := hidI (hnil.out (facL_out (by omega) (by omega)))
      go_enter Try.func17, Try.ntmps17
      go_wp2
      go_ret
      exact hfin.out
theorem zero200 (w : World) : (zeroValue 32).run Try.prog w = .ok (.agg (List.replicate 200 (iv 0)).toArray) w := by kernel_rfl
theorem len200 : Try.prog.arrayLen 32 = 200 := by kernel_rfl
theorem size200 (W : World) : (sizeOf (Try.prog.elem 32)).run Try.prog W = .ok 1 W := by kernel_rfl
theorem und200 : Try.prog.underlying 32 = some (.array (Try.prog.arrayLen 32) (Try.prog.elem 32)) := by kernel_rfl
theorem slice200 (W : World) (g q : Nat) (hq : q ≤ 200) : (Instr.sliceAt 32 (.pointer (some ⟨g, 0, none⟩)) none (some (.int .i64 (q : Int))) none).run Try.prog W = .ok (.slice (some ⟨g, 0, none⟩) q 200) W := by
  rw [run_sliceAt_array_h W 32 ⟨g, 0, none⟩ und200 .i64 (q : Int) (by omega) (by rw [len200]; omega), size200, len200]
  simp [slicedAt, Result.andThen, Addr.add]
/-- The first k factors lie in a row of the call's own. -/
def FacSt (w : World) (lo n : Nat) (B : List (List Int)) (ns : List Int) (k : Nat) : Prop :=
  ∃ us : List Value, us.length = k ∧ w.ownsRow lo 23 1 (.slice (some ⟨lo, 0, none⟩) n n) n (padV us n) ∧ ∀ j, j < k → ReadI w.heap.size w (us.getD j undef) (facL B (ns.getD j 0)) ∧ (facL B (ns.getD j 0) = [] ∨ ∀ b, (us.getD j undef).ownBlock = some b → b ≠ lo)
theorem splice_take {ns : List Int} {q : Nat} (hq : q ≤ 200) : splice (List.replicate 200 (iv 0)) 0 ((ns.take q).map iv) = (ns.take q).map iv ++ List.replicate (200 - (ns.take q).length) (iv 0) := by
  unfold splice
  rw [List.take_zero, List.nil_append, List.length_map, Nat.zero_add, List.drop_replicate]
set_option maxRecDepth 100000 in
set_option maxHeartbeats 6400000 in
theorem progExpand (w : World) (vb vn : Value) (B : List (List Int)) (ns : List Int) (h : ReadSS w.heap.size w vb B) (hn : ReadI w.heap.size w vn ns) (hin : InR ns) (hinB : ∀ z ∈ B, InR z) (hl : ns.length ≤ 1048576) (hz : ∀ i, i < B.length → (B.getD i []).length ≤ 1048576) (hBl : B.length ≤ 1048576) :
    Calls Try.prog 8 #[vb, vn] w (IntsRet w (exL B ns)) := by
  have h' := h
  obtain ⟨_, ab, cb, rfl, _, _⟩ := h'
  have hn' := hn
  obtain ⟨_, an, cn, rfl, hn1, hn2⟩ := hn'
  obtain ⟨m, hm⟩ : ∃ m, m = B.length := ⟨_, rfl⟩
  obtain ⟨n, hnn⟩ : ∃ n, n = ns.length := ⟨_, rfl⟩
  rw [← hnn] at hn hl ⊢
  rw [← hm] at h ⊢
  obtain ⟨i0, hi, hz0, hz1, hz2⟩ := info_parts infoInt
  have hsz : (Try.prog.info? 3).map (·.size) = some 1 := by rw [hi]; simp [hz1]
  obtain ⟨j0, hj, hy0, hy1, hy2⟩ := info_parts infoSl
  obtain ⟨Z0, hZ0⟩ : ∃ Z0 : List Value, Z0 = List.replicate 200 (iv 0) := ⟨_, rfl⟩
  have hZl : Z0.length = 200 := by rw [hZ0, List.length_replicate]
  obtain ⟨Z, hZ⟩ : ∃ Z : Array Value, Z = Z0.toArray := ⟨_, rfl⟩
  have hzero := zero200 w
  rw [← hZ0, ← hZ] at hzero
  obtain ⟨w1, hw1⟩ : ∃ z, z = w.alloc (.cells Z 32) := ⟨_, rfl⟩
  have hb1 : Below w.heap.size w w1 := by rw [hw1]; exact (Below.refl _ _).alloc (Nat.le_refl _) _
  have hs1 : w.heap.size < w1.heap.size := by rw [hw1]; simp
  have hk1 : w1.heap[w.heap.size]? = some (.cells Z0.toArray 32 (0, 0)) := by rw [hw1, ← hZ]; exact heap_alloc_new w _
  replace hZ := hidI hZ
  obtain ⟨q, hq⟩ : ∃ q, q = Nat.min n 200 := ⟨_, rfl⟩
  have hq1 : q ≤ n := by rw [hq]; exact Nat.min_le_left _ _
  have hq2 : q ≤ 200 := by rw [hq]; exact Nat.min_le_right _ _
  obtain ⟨F, hF⟩ : ∃ F, F = exL B ns := ⟨_, rfl⟩
  rw [← hF]
  have hFe : F = redL (facs B (ns.take q)) := by
    rw [hF]
    unfold exL
    congr 2
    rcases Nat.le_total n 200 with c | c
    · have hqn : q = n := by rw [hq]; exact Nat.min_eq_left c
      rw [List.take_of_length_le (by omega), List.take_of_length_le (by omega)]
    · have : q = 200 := by rw [hq]; exact Nat.min_eq_right c
      rw [this]
  obtain ⟨cs, hcs⟩ : ∃ cs, cs = (ns.take q).map iv := ⟨_, rfl⟩
  have hcl : cs.length = q := by rw [hcs, List.length_map, List.length_take]; omega
  have hc1 : ∀ v ∈ cs, v.oneCell' = true := by
    intro v hv
    rw [hcs] at hv
    obtain ⟨y, _, rfl⟩ := List.mem_map.1 hv
    rfl
  have hpos : 0 < cs.length → (some (⟨w.heap.size, 0, none⟩ : Addr)) = some ⟨w.heap.size, 0, none⟩ ∧ ∃ ad, an = some ad ∧ ∀ j v, cs[j]? = some v → w1.cell? (ad.add j) = some v := by
    intro h0
    refine ⟨rfl, ?_⟩
    have hil : 0 < ns.length := by omega
    obtain ⟨bn, on, hna, hbn, _⟩ := hn.at2 0 hil
    refine ⟨_, hna, fun j v hv => ?_⟩
    have hjq : j < cs.length := (List.getElem?_eq_some_iff.1 hv).1
    obtain ⟨b2, o2, hna2, hb2, c2⟩ := hn.at2 j (by omega)
    rw [hna] at hna2
    simp only [Option.some.injEq, Addr.mk.injEq, and_true] at hna2
    obtain ⟨e1, e2⟩ := hna2
    have hv2 : v = .int .i64 (ns.getD j 0) := by
      rw [hcs, List.getElem?_map, List.getElem?_take, if_pos (by omega), List.getElem?_eq_getElem (by omega)] at hv
      simp at hv
      rw [← hv, List.getD_eq_getElem?_getD, List.getElem?_eq_getElem (by omega)]; rfl
    rw [hv2, show ((⟨bn, on, none⟩ : Addr).add j) = ⟨b2, o2 + j, none⟩ by rw [e1, e2]; simp [Addr.add]]
    exact below_cell9 c2 hb1 hb2
  have hspl := splice_take (ns := ns) hq2
  rw [← hcs, ← hZ0] at hspl
  replace hZ0 := hidI hZ0
  have hw1s := hidI hw1.symm
  replace hw1 := hidI hw1
  replace hF := hidI hF
  replace hFe := hidI hFe
  replace hm := hidI hm
  replace hnn := hidI hnn
  replace h := hidI h
  replace hn := hidI hn
  replace hin := hidI hin
  replace hinB := hidI hinB
  replace hz := hidI hz
  replace hsz := hidI hsz
  replace hk1 := hidI hk1
  replace hcs := hidI hcs
  replace hspl := hidI hspl
  replace hpos := hidI hpos
  replace hc1 := hidI hc1
  have hmin : cs.length = Nat.min n 200 := by rw [hcl]; exact hq
  replace hmin := hidI hmin
  replace hq := hidI hq
  have hfit : Hid (0 + cs.length ≤ Z0.length) := hidI (by rw [hZl]; omega)
  replace hZl := hidI hZl
  replace hcl := hidI hcl
  clear hn1 hn2
  go_enter Try.func8, Try.ntmps8
  go_upto_region 2 with fail
  rw [hw1s.out]
  go_wp2_with (with_reducible refine wpList_copy_splice rfl (.tmp 10) (.tmp 11) 23 23 rfl 3 Try.underlying23 hsz.out (some ⟨w.heap.size, 0, none⟩) an 200 200 n cn rfl rfl w.heap.size 0 Z0 32 hk1.out cs hmin.out (fun h0 => ⟨rfl, (hpos.out h0).2⟩) hfit.out hc1.out w.heap.size w hb1 (Nat.le_refl _) ?_)
  intro w2 hh2 hb2
  rw [hspl.out] at hh2
  rw [hcl.out]
  have hlt2 : w.heap.size < w2.heap.size := (Array.getElem?_eq_some_iff.1 hh2.out).1
  replace hb2 := hidI hb2
  clear hb1
  go_wp2_with (at_make; go_must (refine wpList_make_full _ rfl _ _ 22 rfl w2.heap.size 23 j0 (.slice none 0 0) 1 Try.underlying22 hj hy0 hy1 .i64 .i64 _ _ q rfl rfl rfl rfl ?c1 ?c2 ?c3 ?_))
  case c1 => rw [hy2]; omega
  case c2 => unfold maxLen; omega
  case c3 => exact Nat.le_refl _
  intro w3 hown hg
  rw [toList_madeCells_one] at hown
  have hb3 := (Below.refl w2.heap.size w2).grown hg (Nat.le_refl _) (by intro k hk; cases hk)
  have hlt3 : w2.heap.size < w3.heap.size := (World.ownsRow.lt hown _ rfl).2
  clear hg hi hz0 hz1 hz2 hj hy0 hy1 hy2
  have hst0 : Hid (FacSt w3 w2.heap.size q B ns 0) := hidI ⟨[], rfl, hown, fun j hj => by omega⟩
  have hh3 := hidI ((hb3.block _ hlt2).trans hh2.out)
  have hb33 := hidI (Below.refl w2.heap.size w3)
  have hb23 := hidI hb3
  have hsl := fun W => slice200 W w.heap.size q hq2
  clear hown hb3
  go_wp2
  clear hsl
  go_loopg [8, 9, 18] q (fun g x9 y9 iv_ wr => ∃ k : Nat, k + g = q ∧ iv_ = .int .i64 k ∧ Hid (FacSt wr w2.heap.size q B ns k) ∧ Hid (Below w2.heap.size w3 wr))
  case atStart => exact ⟨0, by omega, rfl, hst0, hb33⟩
  case round =>
    clear hst0 hb33
    obtain ⟨k, hk, rfl, hst, hb⟩ := hrel
    have hsr := hb.out.size
    have hbw := hidI (hb2.out.trans ((hb23.out.trans hb.out).mono (by omega)))
    obtain ⟨us, hul, hown, hrd⟩ := hst.out
    by_cases hlt : k < q
    · have hki : (k : Int) < (q : Int) := by omega
      have hkn : k < ns.length := by have := hnn.out; omega
      have hk2 : (wr.heap[w.heap.size]?) = some (.cells ((ns.take q).map iv ++ List.replicate (200 - (ns.take q).length) (iv 0)).toArray 32 (0, 0)) := by
        rw [hb.out.block _ hlt2, ← hcs.out]; exact hh3.out
      have c0 : wr.cell? ⟨w.heap.size, k, none⟩ = some (.int .i64 (ns.getD k 0)) := by
        rw [World.cell?, hk2]
        simp only
        rw [List.getElem?_toArray, List.getElem?_append_left (by rw [List.length_map, List.length_take]; omega), List.getElem?_map, List.getElem?_take, if_pos hlt, List.getElem?_eq_getElem hkn, List.getD_eq_getElem?_getD, List.getElem?_eq_getElem hkn]
        rfl
      have hx := hin.out.getD k hkn
      obtain ⟨x, hxx⟩ : ∃ x, x = ns.getD k 0 := ⟨_, rfl⟩
      rw [← hxx] at c0 hx
      have hcall := factor_any w.heap.size wr (.slice ab m cb) B x hbw.out.size (h.out.below hbw.out) hx hz.out hBl
      obtain ⟨FX, hFX⟩ : ∃ t, t = facL B x := ⟨_, rfl⟩
      rw [← hFX] at hcall
      replace hFX := hidI hFX
      replace hk := hidI hk
      replace hul := hidI hul
      replace hown := hidI hown
      replace hrd := hidI hrd
      replace hxx := hidI hxx
      replace hk2 := hidI hk2
      replace hst := hidI hst
      go_wp2_with fail
      refine hcall.mono ?_
      rintro e w4 ⟨a4, m4, c4, rfl, hrd4, hof4, hb4⟩
      clear hcall
      have hs4 := hb4.size
      have hown2 : w4.ownsRow w2.heap.size 23 1 (.slice (some ⟨w2.heap.size, 0, none⟩) q q) q (padV us q) := by
        obtain ⟨q1, q2 | ⟨g, cap', cur, e, hg, hh, hr⟩⟩ := hown.out
        · exact ⟨q1, .inl q2⟩
        · cases e
          exact ⟨q1, .inr ⟨_, _, cur, rfl, hg, (hb4.block _ (by omega)).trans hh, hr⟩⟩
      obtain ⟨y0, hy0⟩ : ∃ y, w4.cell? ⟨w2.heap.size, k, none⟩ = some y := by
        rw [hown2.cellAt k (by omega)]
        exact ⟨_, List.getElem?_eq_getElem (by unfold padV; rw [List.length_append, List.length_replicate, hul.out]; omega)⟩
      have hf0 := hown2.frozenAt k
      have hs := (hown2.stored k (.slice a4 m4 c4)).1
      rw [show (padV us q).set k (.slice a4 m4 c4) = padV (us ++ [.slice a4 m4 c4]) q by rw [← padV_set _ (by rw [hul.out]; exact hlt), hul.out]] at hs
      have hst4 : FacSt (w4.setCell ⟨w2.heap.size, k, none⟩ (.slice a4 m4 c4)) w2.heap.size q B ns (k + 1) := by
        refine ⟨us ++ [.slice a4 m4 c4], by simp [hul.out], hs, fun j hj => ?_⟩
        have hsize : (w4.setCell ⟨w2.heap.size, k, none⟩ (.slice a4 m4 c4)).heap.size = w4.heap.size := by simp [World.setCell]
        rw [hsize]
        by_cases hjk : j < k
        · have e1 : (us ++ [Value.slice a4 m4 c4]).getD j undef = us.getD j undef := by rw [List.getD_eq_getElem?_getD, List.getElem?_append_left (by rw [hul.out]; exact hjk), List.getD_eq_getElem?_getD]
          rw [e1]
          have hq9 := hrd.out j hjk
          exact ⟨readI_set9 ((hq9.1.below hb4).mono hs4) hq9.2, hq9.2⟩
        · obtain rfl : j = k := by omega
          have e1 : (us ++ [Value.slice a4 m4 c4]).getD j undef = .slice a4 m4 c4 := by
            have := hul.out
            subst this
            simp
          rw [e1, ← hxx.out, ← hFX.out]
          have hof5 : FX = [] ∨ ∀ b, (Value.slice a4 m4 c4).ownBlock = some b → b ≠ w2.heap.size := hof4.imp id fun q b e => by have := q b e; omega
          exact ⟨readI_set9 hrd4 hof5, hof5⟩
      have hb5 : Below w2.heap.size w3 (w4.setCell ⟨w2.heap.size, k, none⟩ (.slice a4 m4 c4)) := (hb.out.trans (hb4.mono (by omega))).setCell (p := ⟨w2.heap.size, k, none⟩) (Nat.le_refl _) _
      replace hst4 := hidI hst4
      replace hb5 := hidI hb5
      replace hown2 := hidI hown2
      replace hs := hidI hs
      clear hrd4 hb4 hof4
      go_wp2
      go_roundg (q - (k + 1))
      case rel => exact ⟨k + 1, by have := hk.out; omega, by go_num, hst4, hb5⟩
      case measure => have := hk.out; omega
    · obtain rfl : k = q := by omega
      have hki : ¬ (k : Int) < (k : Int) := by omega
      have hpad : padV us k = us := by unfold padV; rw [hul, Nat.sub_self, List.replicate_zero, List.append_nil]
      rw [hpad] at hown
      have hlen : ((ns.take k).map (facL B)).length = k := by rw [List.length_map, List.length_take]; have := hnn.out; omega
      have hll : ReadLL wr.heap.size wr (.slice (some ⟨w2.heap.size, 0, none⟩) k k) ((ns.take k).map (facL B)) := by
        refine ⟨by rw [hlen]; omega, _, k, by rw [hlen], .inr ⟨w2.heap.size, 0, rfl, by omega, fun i hi => ?_⟩⟩
        rw [hlen] at hi
        refine ⟨us.getD i undef, ?_, ?_⟩
        · rw [Nat.zero_add, hown.cellAt i (by omega), List.getD_eq_getElem?_getD, List.getElem?_eq_getElem (by omega)]; rfl
        · have hnl : i < ns.length := by have := hnn.out; omega
          have := (hrd i hi).1
          have e : ((ns.take k).map (facL B)).getD i [] = facL B (ns.getD i 0) := by
            rw [List.getD_eq_getElem?_getD, List.getElem?_map, List.getElem?_take, if_pos hi, List.getElem?_eq_getElem hnl, List.getD_eq_getElem?_getD, List.getElem?_eq_getElem hnl]; rfl
          rw [e]; exact this
      have hfb := facs_len hz.out (ns.take k)
      have hft : (ns.take k).length ≤ 200 := by rw [List.length_take]; omega
      have hfm : (ns.take k).length * 1048576 ≤ 200 * 1048576 := Nat.mul_le_mul_right _ hft
      have hmul := multiplyAll_any wr (.slice (some ⟨w2.heap.size, 0, none⟩) k k) ((ns.take k).map (facL B)) hll (facs_in hinB.out (ns.take k)) (by unfold facs at hfb; omega)
      rw [show ((ns.take k).map (facL B)).flatten = facs B (ns.take k) from rfl, ← hFe.out] at hmul
      replace hll := hidI hll
      replace hlen := hidI hlen
      replace hpad := hidI hpad
      replace hown := hidI hown
      replace hrd := hidI hrd
      replace hul := hidI hul
      replace hst := hidI hst
      replace hk := hidI hk
      clear hfb hft hfm
      go_wp2_with fail
      refine hmul.mono ?_
      rintro e w5 ⟨v5, rfl, hrow5, hb5⟩
      have hfin : IntsRet w F (.returned v5) w5 := ⟨_, rfl, hrow5.wide hbw.out.size (Nat.le_refl _), hbw.out.trans (hb5.mono hbw.out.size)⟩
      replace hfin := hidI hfin
      clear hmul hrow5 hb5
      go_wp2
      go_ret
      exact hfin.out
theorem words_le2 {zss : List (List Int)} (h : sumN (zss.map List.length) ≤ 1048576) : ∀ i, i < zss.length → (zss.getD i []).length ≤ 1048576 := fun i hi => by
  have h1 := sumN_getD (zss.map List.length) i (by rw [List.length_map]; omega)
  rw [getD_map_len] at h1
  omega
end Go.Proofs.Ytpjlamnjiilgbaa
