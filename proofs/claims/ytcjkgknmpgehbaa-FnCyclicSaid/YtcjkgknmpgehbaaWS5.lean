/- Words, the model: PowerWord. -/
import Derived.Test.YtcjkgknmpgehbaaWS4
import Derived.Maps.AppendAt
namespace Go.Proofs.Ytcjkgknmpgehbaa
open Go.RowKit
set_option linter.unusedVariables false

theorem OwnsI.later {w w' : World} {base B : Nat} {v : Value} {zs : List Int} (h : OwnsI w base v zs) (hb : Below B w w') (hB : w.heap.size ≤ B) : OwnsI w' base v zs := by
  obtain ⟨hl, h1 | ⟨g, cap, cur, hv, hg, hh, hr⟩⟩ := h
  · exact ⟨hl, .inl h1⟩
  · have hlt : g < w.heap.size := (Array.getElem?_eq_some_iff.1 hh).1
    exact ⟨hl, .inr ⟨g, cap, cur, hv, hg, by rw [hb.block g (by omega)]; exact hh, hr⟩⟩
theorem ReadI.blocks {B : Nat} {w w' : World} {v : Value} {zs : List Int} (h : ReadI B w v zs) (hb : ∀ k, k < B → w'.heap[k]? = w.heap[k]?) : ReadI B w' v zs := by
  obtain ⟨hl, a, cap, hv, hnil, hc⟩ := h
  refine ⟨hl, a, cap, hv, hnil, hc.imp id ?_⟩
  rintro ⟨b, off, ha, hB, hcell⟩
  exact ⟨b, off, ha, hB, fun i hi => by rw [World.cell?_of_block (hb b hB)]; exact hcell i hi⟩
/-- The slice's own block lies outside [lo, hi). -/
def Outside (lo hi : Nat) (v : Value) : Prop := ∀ g, v.ownBlock = some g → g < lo ∨ hi ≤ g
/-- out = append(out, x...), and what else stays. -/
theorem wpList_pushAllI_at {w0 : World} {ops : Array Oper} {rest : List Oper} {o : Oper} {a : Act} {Q : Exit → Act → World → Prop} (hgd : o.guard = none) (s x : Operand)
    (ho : o.op = .call { callee := .builtin .append, args := #[s, x], argTypes := #[24, 24] }) (base : Nat) (v vx : Value) (zs ys : List Int) (B lo hi : Nat)
    (hs : a.eval s = v) (hx : a.eval x = vx) (hown : OwnsI w0 base v zs) (hread : ReadI B w0 vx ys) (hl : zs.length + ys.length ≤ 1000000000) (hbase : base ≤ w0.heap.size) (hhi : hi ≤ w0.heap.size) (hout : Outside lo hi v)
    (h : ∀ v' w', OwnsI w' base v' (zs ++ ys) → Below base w0 w' → Outside lo hi v' → (∀ k, lo ≤ k → k < hi → w'.heap[k]? = w0.heap[k]?) → wpList Try.prog ops Q rest (a.put o.dst v') w') :
    wpList Try.prog ops Q (o :: rest) a w0 := by
  obtain ⟨i0, hi0, hz0, hz1, hz2⟩ := info_parts infoInt
  obtain ⟨_, ax, cap, rfl, ⟨hnil, _⟩, hr⟩ := hread
  rcases ax with _ | ad
  · have hy : ys = [] := by
      rcases hr with h0 | ⟨b, off, ha, _⟩
      · exact h0
      · cases ha
    subst hy
    rw [hnil rfl] at hx
    refine wpList_append_own_none hgd s x 24 ho base 3 i0 1 Try.underlying24 hi0 v zs.length (zs.map iv) hs hown hx ?_
    exact h v w0 (by rw [List.append_nil]; exact hown) (Below.refl _ _) hout (fun _ _ _ => rfl)
  · refine wpList_append_own_at w0 hgd s x 24 ho base 3 i0 (.int .i64 0) 1 8 Try.underlying24 hi0 hz0 hz1 hz2 rfl (by decide) v zs.length (zs.map iv) hs hown ad ys.length cap (ys.map iv) hx (by simp) ?_ ?_ ?_ ?_ hbase ?_
    · intro j u hj
      rw [List.getElem?_map] at hj
      obtain ⟨y, hy, rfl⟩ := Option.map_eq_some_iff.1 hj
      have hjl : j < ys.length := (List.getElem?_eq_some_iff.1 hy).1
      rcases hr with h0 | ⟨b, off, ha, hB, hc⟩
      · rw [h0] at hjl; simp at hjl
      · cases ha
        have hcj := hc j hjl
        rw [List.getD_eq_getElem?_getD, hy] at hcj
        by_cases hj0 : j = 0
        · subst hj0; simpa [Addr.add, iv] using hcj
        · simpa [Addr.add, hj0, iv] using hcj
    · intro u hu
      obtain ⟨y, _, rfl⟩ := List.mem_map.1 hu
      rfl
    · unfold maxLen; omega
    · omega
    · intro v' w' ho' hg _ hat
      refine h v' w' (by unfold OwnsI; simpa using ho') ((Below.refl base w0).grown hg hbase (fun k hk => (World.ownsRow.lt hown k hk).1)) ?_ ?_
      · intro g hgv
        rcases hat with e | e
        · exact hout g (by rw [← e]; exact hgv)
        · rw [e] at hgv
          cases hgv
          exact .inr hhi
      · intro k h1 h2
        refine hg.block k (by omega) (fun e => ?_)
        rcases hout k e.symm with h3 | h3 <;> omega

set_option maxHeartbeats 1600000 in
theorem specPow (w : World) (v : Value) (zs : List Int) (k : Int) (h : ReadI w.heap.size w v zs) (hl : zs.length ≤ 4000000) (hk : -9223372036854775808 < k) (hk2 : k ≤ 9223372036854775807) :
    Calls Try.prog 39 #[v, .int .i64 k] w (IntsRet w (powL zs k)) := by
  have hr := hidI h
  clear h
  have hb0 := (Below.refl w.heap.size w).alloc (Nat.le_refl _) (.cells #[] 3)
  have hown0 := OwnsI.lit w
  have hr1 := hr.out.below hb0
  have hs1 : w.heap.size < (w.alloc (.cells #[] 3)).heap.size := by simp
  obtain ⟨w1, hw1⟩ : ∃ w1, w1 = w.alloc (.cells #[] 3) := ⟨_, rfl⟩
  rw [← hw1] at hb0 hown0 hr1 hs1
  have hwr : wrap64 (-k) = -k := by unfold wrap64; omega
  replace hwr := hidI hwr
  replace hw1 := hidI hw1
  replace hown0 := hidI hown0
  replace hr1 := hidI hr1
  go_enter Try.func39, Try.ntmps39
  by_cases hneg : k < 0
  · go_wp2_with fail
    rw [← hw1.out]
    refine (specInv w1 v zs (hr1.out.mono (by omega)) (by omega)).mono ?_
    rintro e w2 ⟨v2, rfl, hrow2, hb1⟩
    have hr2 := hidI (fun (wr : World) (hkp : ∀ k, w1.heap.size ≤ k → k < w2.heap.size → wr.heap[k]? = w2.heap[k]?) => (hrow2.keep hkp).read)
    have hown2 := hidI (hown0.out.later hb1 (Nat.le_refl _))
    have hb2 := hb0.trans (hb1.mono (by omega))
    have hil := invL_length zs
    have hout2 : Outside w1.heap.size w2.heap.size (.slice (some ⟨w.heap.size, 0, none⟩) 0 0) := by
      intro g hg
      cases hg
      exact .inl hs1
    clear hrow2 hb1
    go_wp2_with fail
    obtain ⟨m, hm⟩ : ∃ m, m = k.natAbs := ⟨_, rfl⟩
    go_loopw [5, 6] (fun vv i wr => ∃ j : Nat, j ≤ m ∧ j ≤ 24 ∧ i = .int .i64 j ∧ OwnsI wr w.heap.size vv (rep (invL zs) j) ∧ Below w.heap.size w wr ∧ Outside w1.heap.size w2.heap.size vv ∧ w2.heap.size ≤ wr.heap.size ∧ (∀ k, w1.heap.size ≤ k → k < w2.heap.size → wr.heap[k]? = w2.heap[k]?)) (fun _ i _ => 24 - (intOf i).toNat)
    case atStart => exact ⟨0, Nat.zero_le _, Nat.zero_le _, rfl, hown2.out, hb2, hout2, Nat.le_refl _, fun _ _ _ => rfl⟩
    case round =>
      clear hown2
      obtain ⟨j, hj, hj2, rfl, hown, hb, hout, hsz, hkeep⟩ := hrel
      have hrl := rep_length (invL zs) j
      have hrl2 : j * ((invL zs)).length ≤ 24 * ((invL zs)).length := Nat.mul_le_mul_right _ hj2
      have hlz : ((invL zs)).length ≤ 4000000 := by omega
      have hlr : (rep (invL zs) j).length ≤ 96000000 := by omega
      have hrd : ReadI w2.heap.size wr v2 (invL zs) := hr2.out wr hkeep
      clear hrl hrl2
      replace hkeep := hidI hkeep
      by_cases hjm : j < m
      · by_cases h24 : j < 24
        · have hc1 : (j : Int) < -k := by omega
          have hc0 : ¬ (j : Int) < k := by omega
          have hsum : (rep (invL zs) j).length + ((invL zs)).length ≤ 1000000000 := by omega
          have h24i : ¬ (24 : Int) ≤ (j : Int) := by omega
          replace hm := hidI hm
          replace hown := hidI hown
          replace hrd := hidI hrd
          replace hout := hidI hout
          go_wp2_with (at_builtin; go_must (refine wpList_pushAllI_at rfl _ _ rfl w.heap.size _ _ (rep (invL zs) j) (invL zs) w2.heap.size w1.heap.size w2.heap.size rfl rfl (by exact hown.out) (by exact hrd.out) hsum hb.size hsz hout.out ?_))
          intro v' w' hown' hb' hout' hkeep'
          have hown3 : OwnsI w' w.heap.size v' (rep (invL zs) (j + 1)) := hown'
          have hb3 := hb.trans hb'
          have hsz3 : w2.heap.size ≤ w'.heap.size := Nat.le_trans hsz hb'.size
          have hkeep3 : ∀ k, w1.heap.size ≤ k → k < w2.heap.size → w'.heap[k]? = w2.heap[k]? := fun k h1 h2 => (show w'.heap[k]? = wr.heap[k]? by first | exact hkeep' k h1 h2 | exact hkeep' k h2).trans (hkeep.out k h1 h2)
          replace hown3 := hidI hown3
          replace hkeep3 := hidI hkeep3
          replace hout' := hidI hout'
          clear hown' hb' hkeep' hown hb hkeep hout hrd
          go_wp2
          go_roundw
          case rel => exact ⟨j + 1, by omega, by omega, by go_num, hown3.out, hb3, hout'.out, hsz3, hkeep3.out⟩
          case measure => simp [intOf]; omega
        · obtain rfl : j = 24 := by omega
          have hp := powL_out (zs := zs) (k := k) (by omega)
          have hc1 : (24 : Int) < -k := by omega
          have hc0 : ¬ (24 : Int) < k := by omega
          replace hp := hidI hp
          replace hm := hidI hm
          replace hown := hidI hown
          replace hrd := hidI hrd
          replace hout := hidI hout
          have hlit := hidI ((OwnsI.lit wr).mono hb.size)
          have hb4 := hb.alloc hb.size (.cells #[] 3)
          go_wp2
          go_ret
          rw [hp.out]
          exact intsRet_owns hlit.out hb4 (Nat.le_refl _) (by simp)
      · obtain rfl : j = m := by omega
        replace hm := hidI hm
        have hc1 : ¬ (j : Int) < -k := by have := hm.out; omega
        have hc0 : ¬ (j : Int) < k := by have := hm.out; omega
        have hp := (powL_neg (zs := zs) (k := k) (by have := hm.out; omega) hneg)
        rw [← hm.out] at hp
        have hrow := hidI ((hown.row (by omega)).read)
        replace hp := hidI hp
        replace hown := hidI hown
        replace hrd := hidI hrd
        replace hout := hidI hout
        go_wp2_with fail
        refine (specRed wr _ (rep (invL zs) j) hrow.out (by omega)).mono ?_
        rintro e w5 ⟨v5, rfl, hrow5, hb5'⟩
        have hs4 := hb.size
        have hb5 := hb.trans (hb5'.mono hs4)
        have hrow5' := hidI (hrow5.wide hs4 (Nat.le_refl _))
        clear hrow5 hb5'
        go_wp2_with fail
        go_ret
        rw [hp.out]
        exact ⟨v5, rfl, hrow5'.out, hb5⟩
  · have hw1' := hw1.out
    subst hw1'
    clear hw1
    have hr2 := hidI (fun (wr : World) (hkp : ∀ k, 0 ≤ k → k < w.heap.size → wr.heap[k]? = w.heap[k]?) => hr.out.blocks (fun k hk => hkp k (Nat.zero_le _) hk))
    have hown2 := hown0
    have hb2 := hb0
    have hout2 : Outside 0 w.heap.size (.slice (some ⟨w.heap.size, 0, none⟩) 0 0) := by
      intro g hg
      cases hg
      exact .inr (Nat.le_refl _)
    replace hs1 := hb0.size
    go_wp2_with fail
    obtain ⟨m, hm⟩ : ∃ m, m = k.natAbs := ⟨_, rfl⟩
    go_loopw [5, 6] (fun vv i wr => ∃ j : Nat, j ≤ m ∧ j ≤ 24 ∧ i = .int .i64 j ∧ OwnsI wr w.heap.size vv (rep zs j) ∧ Below w.heap.size w wr ∧ Outside 0 w.heap.size vv ∧ w.heap.size ≤ wr.heap.size ∧ (∀ k, 0 ≤ k → k < w.heap.size → wr.heap[k]? = w.heap[k]?)) (fun _ i _ => 24 - (intOf i).toNat)
    case atStart => exact ⟨0, Nat.zero_le _, Nat.zero_le _, rfl, hown2.out, hb2, hout2, hs1, fun k _ h => hb0.block k h⟩
    case round =>
      clear hown2
      obtain ⟨j, hj, hj2, rfl, hown, hb, hout, hsz, hkeep⟩ := hrel
      have hrl := rep_length zs j
      have hrl2 : j * (zs).length ≤ 24 * (zs).length := Nat.mul_le_mul_right _ hj2
      have hlz : (zs).length ≤ 4000000 := by omega
      have hlr : (rep zs j).length ≤ 96000000 := by omega
      have hrd : ReadI w.heap.size wr v zs := hr2.out wr hkeep
      clear hrl hrl2
      replace hkeep := hidI hkeep
      by_cases hjm : j < m
      · by_cases h24 : j < 24
        · have hc1 : (j : Int) < k := by omega
          have hsum : (rep zs j).length + (zs).length ≤ 1000000000 := by omega
          have h24i : ¬ (24 : Int) ≤ (j : Int) := by omega
          replace hm := hidI hm
          replace hown := hidI hown
          replace hrd := hidI hrd
          replace hout := hidI hout
          go_wp2_with (at_builtin; go_must (refine wpList_pushAllI_at rfl _ _ rfl w.heap.size _ _ (rep zs j) zs w.heap.size 0 w.heap.size rfl rfl (by exact hown.out) (by exact hrd.out) hsum hb.size hsz hout.out ?_))
          intro v' w' hown' hb' hout' hkeep'
          have hown3 : OwnsI w' w.heap.size v' (rep zs (j + 1)) := hown'
          have hb3 := hb.trans hb'
          have hsz3 : w.heap.size ≤ w'.heap.size := Nat.le_trans hsz hb'.size
          have hkeep3 : ∀ k, 0 ≤ k → k < w.heap.size → w'.heap[k]? = w.heap[k]? := fun k h1 h2 => (show w'.heap[k]? = wr.heap[k]? by first | exact hkeep' k h1 h2 | exact hkeep' k h2).trans (hkeep.out k h1 h2)
          replace hown3 := hidI hown3
          replace hkeep3 := hidI hkeep3
          replace hout' := hidI hout'
          clear hown' hb' hkeep' hown hb hkeep hout hrd
          go_wp2
          go_roundw
          case rel => exact ⟨j + 1, by omega, by omega, by go_num, hown3.out, hb3, hout'.out, hsz3, hkeep3.out⟩
          case measure => simp [intOf]; omega
        · obtain rfl : j = 24 := by omega
          have hp := powL_out (zs := zs) (k := k) (by omega)
          have hc1 : (24 : Int) < k := by omega
          replace hp := hidI hp
          replace hm := hidI hm
          replace hown := hidI hown
          replace hrd := hidI hrd
          replace hout := hidI hout
          have hlit := hidI ((OwnsI.lit wr).mono hb.size)
          have hb4 := hb.alloc hb.size (.cells #[] 3)
          go_wp2
          go_ret
          rw [hp.out]
          exact intsRet_owns hlit.out hb4 (Nat.le_refl _) (by simp)
      · obtain rfl : j = m := by omega
        replace hm := hidI hm
        have hc1 : ¬ (j : Int) < -k := by have := hm.out; omega
        have hc0 : ¬ (j : Int) < k := by have := hm.out; omega
        have hp := (powL_pos (zs := zs) (k := k) (by have := hm.out; omega) (by omega))
        rw [← hm.out] at hp
        have hrow := hidI ((hown.row (by omega)).read)
        replace hp := hidI hp
        replace hown := hidI hown
        replace hrd := hidI hrd
        replace hout := hidI hout
        go_wp2_with fail
        refine (specRed wr _ (rep zs j) hrow.out (by omega)).mono ?_
        rintro e w5 ⟨v5, rfl, hrow5, hb5'⟩
        have hs4 := hb.size
        have hb5 := hb.trans (hb5'.mono hs4)
        have hrow5' := hidI (hrow5.wide hs4 (Nat.le_refl _))
        clear hrow5 hb5'
        go_wp2_with fail
        go_ret
        rw [hp.out]
        exact ⟨v5, rfl, hrow5'.out, hb5⟩

set_option maxHeartbeats 1600000 in
theorem specPowMin (w : World) (v : Value) (zs : List Int) (h : ReadI w.heap.size w v zs) (hl : zs.length ≤ 4000000) :
    Calls Try.prog 39 #[v, .int .i64 (-9223372036854775808)] w (IntsRet w (powL zs (-9223372036854775808))) := by
  have hp : powL zs (-9223372036854775808) = redL [] := powL_out (by omega)
  rw [hp]
  have hr := hidI h
  clear h hp
  have hb0 := (Below.refl w.heap.size w).alloc (Nat.le_refl _) (.cells #[] 3)
  have hown0 := OwnsI.lit w
  have hr1 := hr.out.below hb0
  have hs1 : w.heap.size < (w.alloc (.cells #[] 3)).heap.size := by simp
  replace hown0 := hidI hown0
  replace hr1 := hidI hr1
  go_enter Try.func39, Try.ntmps39
  go_wp2_with fail
  refine (specInv _ v zs (hr1.out.mono (by omega)) (by omega)).mono ?_
  rintro e w2 ⟨v2, rfl, hrow2, hb1⟩
  have hown2 := hidI ((hown0.out.later hb1 (Nat.le_refl _)).row (by simp)).read
  have hb2 := hb0.trans (hb1.mono (by omega))
  clear hrow2 hb1
  go_wp2_with fail
  go_loop [5, 6] (fun vv i => i = .int .i64 0 ∧ vv = .slice (some ⟨w.heap.size, 0, none⟩) 0 0) (fun _ _ => 0)
  case atStart => exact ⟨rfl, rfl⟩
  case round =>
    obtain ⟨rfl, rfl⟩ := hrel
    have hmin : ¬ (0 : Int) < wrap64 9223372036854775808 := by unfold wrap64; omega
    have hmin2 : wrap64 9223372036854775808 ≤ 0 := by unfold wrap64; omega
    go_wp2_with fail
    refine (specRed w2 _ [] hown2.out (by simp)).mono ?_
    rintro e w5 ⟨v5, rfl, hrow5, hb5'⟩
    have hs4 := hb2.size
    have hb5 := hb2.trans (hb5'.mono hs4)
    have hrow5' := hidI (hrow5.wide hs4 (Nat.le_refl _))
    clear hrow5 hb5'
    go_wp2_with fail
    go_ret
    exact ⟨v5, rfl, hrow5'.out, hb5⟩
theorem specPowAny (w : World) (v : Value) (zs : List Int) (k : Int) (h : ReadI w.heap.size w v zs) (hl : zs.length ≤ 4000000) (hk : -9223372036854775808 ≤ k) (hk2 : k ≤ 9223372036854775807) :
    Calls Try.prog 39 #[v, .int .i64 k] w (IntsRet w (powL zs k)) := by
  by_cases e : k = -9223372036854775808
  · subst e; exact specPowMin w v zs h hl
  · exact specPow w v zs k h hl (by omega) hk2
end Go.Proofs.Ytcjkgknmpgehbaa
