/- Words, the model: MultiplyWords, CommutatorOf, ConjugateWord, PowerWord, EqualWords. Words, the model: EqualWords, the order of letters, CompareWords, PowerWord. Words, the model: CompareWords, PowerWord. Words, the model: PowerWord. Words, the model: IsWord. Words, the program: EqualWords. Words, the model: EqualWords. -/
import Derived.Test.YtgngfffmkjckdaaGreatDoorQD
import Derived.Maps.AppendAt
import Derived.Test.YtgngfffmkjckdaaGreatDoorRA
import Derived.BigQuiet
import Derived.Test.YtgngfffmkjckdaaGreatDoorQA
namespace Go.Proofs.YtgngfffmkjckdaaGreatDoor
open Go.RowKit
set_option linter.unusedVariables false

/-- A row of the call's own can be read as long as only later blocks turn. -/
theorem RowI.later {w w' : World} {lo hi : Nat} {v : Value} {zs : List Int} (h : RowI w lo hi v zs) (hb : Below hi w w') (hs : hi ≤ w'.heap.size) : ReadI w'.heap.size w' v zs :=
  ((h.read).below hb).mono hs
end Go.Proofs.YtgngfffmkjckdaaGreatDoor

namespace Go.Proofs.YtgngfffmkjckdaaGreatDoor
open Go.RowKit
set_option linter.unusedVariables false

theorem ordI_same {x y : Int} (h : (x == y) = true) : ordI x y = 0 := if_pos (beq_iff_eq.1 h)
end Go.Proofs.YtgngfffmkjckdaaGreatDoor

namespace Go.Proofs.YtgngfffmkjckdaaGreatDoor
open Go.RowKit
set_option linter.unusedVariables false

def IntRet (w : World) (z : Int) (e : Ending) (w' : World) : Prop := e = .returned (.int .i64 z) ∧ ∃ n, w' = w.drewN n
end Go.Proofs.YtgngfffmkjckdaaGreatDoor

namespace Go.Proofs.YtgngfffmkjckdaaGreatDoor
open Go.RowKit
set_option linter.unusedVariables false

theorem OwnsI.later {w w' : World} {base B : Nat} {v : Value} {zs : List Int} (h : OwnsI w base v zs) (hb : Below B w w') (hB : w.heap.size ≤ B) : OwnsI w' base v zs := by
  obtain ⟨hl, h1 | ⟨g, cap, cur, hv, hg, hh, hr⟩⟩ := h
  · exact ⟨hl, .inl h1⟩
  · have hlt : g < w.heap.size := (Array.getElem?_eq_some_iff.1 hh).1
    exact ⟨hl, .inr ⟨g, cap, cur, hv, hg, by rw [hb.block g (by omega)]; exact hh, hr⟩⟩
theorem ReadI.blocks {B : Nat} {w w' : World} {v : Value} {zs : List Int} (h : ReadI B w v zs) (hb : ∀ k, k < B → w'.heap[k]? = w.heap[k]?) : ReadI B w' v zs := by
  obtain ⟨hl, a, cap, hv, hnil, hc⟩ := h
  refine ⟨hl, a, cap, hv, hnil, hc.imp id ?_⟩
  rintro ⟨b, off, ha, hB, hcell⟩
  exact ⟨b, off, ha, hB, fun i hi => by rw [World.cell?_of_block (hb b hB)]; exact hcell i hi⟩
/-- The slice's own block lies outside [lo, hi). -/
def Outside (lo hi : Nat) (v : Value) : Prop := ∀ g, v.ownBlock = some g → g < lo ∨ hi ≤ g
/-- out = append(out, x...), and what else stays. -/
theorem wpList_pushAllI_at {w0 : World} {ops : Array Oper} {rest : List Oper} {o : Oper} {a : Act} {Q : Exit → Act → World → Prop} (hgd : o.guard = none) (s x : Operand)
    (ho : o.op = .call { callee := .builtin .append, args := #[s, x], argTypes := #[46, 46] }) (base : Nat) (v vx : Value) (zs ys : List Int) (B lo hi : Nat)
    (hs : a.eval s = v) (hx : a.eval x = vx) (hown : OwnsI w0 base v zs) (hread : ReadI B w0 vx ys) (hl : zs.length + ys.length ≤ 1000000000) (hbase : base ≤ w0.heap.size) (hhi : hi ≤ w0.heap.size) (hout : Outside lo hi v)
    (h : ∀ v' w', OwnsI w' base v' (zs ++ ys) → Below base w0 w' → Outside lo hi v' → (∀ k, lo ≤ k → k < hi → w'.heap[k]? = w0.heap[k]?) → wpList Tryz.prog ops Q rest (a.put o.dst v') w') :
    wpList Tryz.prog ops Q (o :: rest) a w0 := by
  obtain ⟨i0, hi0, hz0, hz1, hz2⟩ := info_parts infoInt
  obtain ⟨_, ax, cap, rfl, ⟨hnil, _⟩, hr⟩ := hread
  rcases ax with _ | ad
  · have hy : ys = [] := by
      rcases hr with h0 | ⟨b, off, ha, _⟩
      · exact h0
      · cases ha
    subst hy
    rw [hnil rfl] at hx
    refine wpList_append_own_none hgd s x 46 ho base 3 i0 1 Tryz.underlying46 hi0 v zs.length (zs.map iv) hs hown hx ?_
    exact h v w0 (by rw [List.append_nil]; exact hown) (Below.refl _ _) hout (fun _ _ _ => rfl)
  · refine wpList_append_own_at w0 hgd s x 46 ho base 3 i0 (.int .i64 0) 1 8 Tryz.underlying46 hi0 hz0 hz1 hz2 rfl (by decide) v zs.length (zs.map iv) hs hown ad ys.length cap (ys.map iv) hx (by simp) ?_ ?_ ?_ ?_ hbase ?_
    · intro j u hj
      rw [List.getElem?_map] at hj
      obtain ⟨y, hy, rfl⟩ := Option.map_eq_some_iff.1 hj
      have hjl : j < ys.length := (List.getElem?_eq_some_iff.1 hy).1
      rcases hr with h0 | ⟨b, off, ha, hB, hc⟩
      · rw [h0] at hjl; simp at hjl
      · cases ha
        have hcj := hc j hjl
        rw [List.getD_eq_getElem?_getD, hy] at hcj
        by_cases hj0 : j = 0
        · subst hj0; simpa [Addr.add, iv] using hcj
        · simpa [Addr.add, hj0, iv] using hcj
    · intro u hu
      obtain ⟨y, _, rfl⟩ := List.mem_map.1 hu
      rfl
    · unfold maxLen; omega
    · omega
    · intro v' w' ho' hg _ hat
      refine h v' w' (by unfold OwnsI; simpa using ho') ((Below.refl base w0).grown hg hbase (fun k hk => (World.ownsRow.lt hown k hk).1)) ?_ ?_
      · intro g hgv
        rcases hat with e | e
        · exact hout g (by rw [← e]; exact hgv)
        · rw [e] at hgv
          cases hgv
          exact .inr hhi
      · intro k h1 h2
        refine hg.block k (by omega) (fun e => ?_)
        rcases hout k e.symm with h3 | h3 <;> omega

end Go.Proofs.YtgngfffmkjckdaaGreatDoor

namespace Go.Proofs.YtgngfffmkjckdaaGreatDoor
open Go.RowKit
set_option linter.unusedVariables false

def okAt (rank : Int) (zs : List Int) (i : Nat) : Prop :=
  zs.getD i 0 ≠ 0 ∧ ng rank ≤ zs.getD i 0 ∧ zs.getD i 0 ≤ rank ∧ (0 < i → zs.getD i 0 ≠ ng (zs.getD (i - 1) 0))
instance (rank : Int) (zs : List Int) (i : Nat) : Decidable (okAt rank zs i) := by unfold okAt; infer_instance
def isW (rank : Int) (zs : List Int) : Bool := decide ((∀ i, i < zs.length → okAt rank zs i) ∧ 1 ≤ rank ∧ rank ≤ 3 ∧ zs.length ≤ 24)
theorem isW_bad {rank : Int} {zs : List Int} {i : Nat} (hi : i < zs.length) (h : ¬ okAt rank zs i) : isW rank zs = false := by
  unfold isW
  rw [decide_eq_false_iff_not]
  exact fun h' => h (h'.1 i hi)
theorem isW_end {rank : Int} {zs : List Int} (h : ∀ i, i < zs.length → okAt rank zs i) : isW rank zs = decide (1 ≤ rank ∧ rank ≤ 3 ∧ zs.length ≤ 24) := by
  unfold isW
  rw [decide_eq_decide]
  exact ⟨fun h' => h'.2, fun h' => ⟨h, h'⟩⟩

set_option maxHeartbeats 1600000 in
theorem specIsW (w : World) (B : Nat) (v : Value) (zs : List Int) (r : Int) (h : ReadI B w v zs) :
    Calls Tryz.prog 88 #[.int .i64 r, v] w (BoolRet w (isW r zs)) := by
  have hr := h
  obtain ⟨hl, a, cap, rfl, _, hq⟩ := h
  clear hq
  obtain ⟨n, hn⟩ : ∃ n, n = zs.length := ⟨_, rfl⟩
  rw [← hn] at hr hl ⊢
  replace hn := hidI hn
  replace hr := hidI hr
  go_enter Tryz.func88, Tryz.ntmps88
  go_wp2
  go_loopw [5] (fun i wr => ∃ k m : Nat, k ≤ n ∧ i = .int .i64 k ∧ wr = w.drewN m ∧ ∀ i, i < k → okAt r zs i) (fun i _ => n - (intOf i).toNat)
  case atStart => exact ⟨0, 0, Nat.zero_le _, rfl, rfl, fun i h => by omega⟩
  case round =>
    obtain ⟨k, m, hk, rfl, rfl, heq⟩ := hrel
    by_cases hlt : k < n
    · obtain ⟨x, hx⟩ : ∃ x, x = zs.getD k 0 := ⟨_, rfl⟩
      obtain ⟨y, hy⟩ : ∃ y, y = zs.getD (k - 1) 0 := ⟨_, rfl⟩
      obtain ⟨b, off, rfl, hB, hc⟩ := hr.out.at_ k (by have := hn.out; omega)
      have hcy : 0 < k → w.cell? ⟨b, off + (k - 1), none⟩ = some (.int .i64 y) := by
        intro h0
        obtain ⟨b', off', e, _, hc'⟩ := hr.out.at_ (k - 1) (by have := hn.out; omega)
        cases e
        rw [hy]
        exact hc'
      rw [← hx] at hc
      obtain ⟨w0, hw0⟩ : ∃ w0, w0 = w.drewN m := ⟨_, rfl⟩
      have hcx : w0.cell? ⟨b, off + k, none⟩ = some (.int .i64 x) := by rw [hw0]; exact hc
      replace hcy : 0 < k → w0.cell? ⟨b, off + (k - 1), none⟩ = some (.int .i64 y) := by rw [hw0]; exact hcy
      have hlt2 : (k : Int) < (n : Int) := by omega
      have hokd : okAt r zs k ↔ x ≠ 0 ∧ ng r ≤ x ∧ x ≤ r ∧ (0 < k → x ≠ ng y) := by unfold okAt; rw [← hx, ← hy]
      have hbad : ¬ okAt r zs k → isW r zs = false := fun h => isW_bad (by have := hn.out; omega) h
      have hnext : okAt r zs k → ∀ i, i < k + 1 → okAt r zs i := by
        intro h i hi
        by_cases e : i = k
        · subst e; exact h
        · exact heq i (by omega)
      rw [← hw0]
      clear hc heq
      replace hw0 := hidI hw0
      replace hx := hidI hx
      replace hy := hidI hy
      by_cases hx0 : x = 0
      · have hb := hidI (hbad (by rw [hokd]; exact fun h => h.1 hx0))
        have hx1 : (x == 0) = true := by rw [beq_iff_eq]; exact hx0
        clear hbad hokd hnext hcy hx0
        go_wp2
        go_quiet (fail)
        go_wp2
        go_ret
        exact ⟨ret_bool hb.out.symm, _, by rw [hw0.out]; exact World.drewN_drewN ..⟩
      · have hx1 : (x == 0) = false := by rw [beq_eq_false_iff_ne]; exact hx0
        have hxn := hidI hx0
        by_cases hin : ng r ≤ x ∧ x ≤ r
        · have hcall : ∀ w', Calls Tryz.prog 34 #[.int .i64 x, .int .i64 (wrap64 (-r)), .int .i64 r] w' fun e w'' => e = .returned (.bool true) ∧ w'' = w' :=
            fun w' => (l1In_yes x (ng r) r w' hin.1 hin.2).mono (fun e w'' h => ⟨h.1, h.2.symm⟩)
          have hin' := hidI hin
          clear hin
          by_cases hk0 : 0 < k
          · have hk1 : decide (0 < (k : Int)) = true := by simp; omega
            have hk2 : (1 : Int) ≤ (k : Int) := by omega
            have hcell := hcy hk0
            obtain ⟨k', rfl⟩ : ∃ k', k = k' + 1 := ⟨k - 1, by omega⟩
            rw [show k' + 1 - 1 = k' by omega] at hcell
            have hidx : ((k' : Int) + 1 - 1) = (k' : Int) := by omega
            by_cases hxy : x = ng y
            · have hb := hidI (hbad (by rw [hokd]; exact fun h => h.2.2.2 hk0 hxy))
              have hxy1 : (x == wrap64 (-y)) = true := by rw [beq_iff_eq]; exact hxy
              clear hbad hokd hnext hcy hx0 hxy
              go_wp2
              go_quiet ((go_at_call 34; exact Calls.quiet_of_same (hcall _)))
              go_wp2
              go_ret
              exact ⟨ret_bool hb.out.symm, _, by rw [hw0.out]; exact World.drewN_drewN ..⟩
            · have hs := hidI (hnext (hokd.2 ⟨hx0, hin'.out.1, hin'.out.2, fun _ => hxy⟩))
              have hxy1 : (x == wrap64 (-y)) = false := by rw [beq_eq_false_iff_ne]; exact hxy
              clear hbad hokd hnext hcy hx0 hxy
              go_wp2
              go_quiet ((go_at_call 34; exact Calls.quiet_of_same (hcall _)))
              go_wp2
              go_roundw
              case rel => exact ⟨k' + 1 + 1, _, by omega, by go_num, by rw [hw0.out]; exact World.drewN_drewN .., hs.out⟩
              case measure => simp [intOf]; omega
          · have hk1 : decide (0 < (k : Int)) = false := by simp; omega
            have hs := hidI (hnext (hokd.2 ⟨hx0, hin'.out.1, hin'.out.2, fun h => absurd h hk0⟩))
            clear hbad hokd hnext hcy hx0
            go_wp2
            go_quiet ((go_at_call 34; exact Calls.quiet_of_same (hcall _)))
            go_wp2
            go_roundw
            case rel => exact ⟨k + 1, _, by omega, by go_num, by rw [hw0.out]; exact World.drewN_drewN .., hs.out⟩
            case measure => simp [intOf]; omega
        · have hcall : ∀ w', Calls Tryz.prog 34 #[.int .i64 x, .int .i64 (wrap64 (-r)), .int .i64 r] w' fun e w'' => e = .returned (.bool false) ∧ w'' = w' :=
            fun w' => (l1In_no x (ng r) r w' (by omega)).mono (fun e w'' h => ⟨h.1, h.2.symm⟩)
          have hb := hidI (hbad (by rw [hokd]; exact fun h => hin ⟨h.2.1, h.2.2.1⟩))
          clear hbad hokd hnext hcy hx0 hin
          go_wp2
          go_quiet ((go_at_call 34; exact Calls.quiet_of_same (hcall _)))
          go_wp2
          go_ret
          exact ⟨ret_bool hb.out.symm, _, by rw [hw0.out]; exact World.drewN_drewN ..⟩
    · obtain rfl : k = n := by omega
      have hend := isW_end (rank := r) (zs := zs) (by rw [← hn.out]; exact heq)
      rw [← hn.out] at hend
      clear heq
      by_cases hin : 1 ≤ r ∧ r ≤ 3
      · have hcall : ∀ w', Calls Tryz.prog 34 #[.int .i64 r, .int .i64 1, .int .i64 3] w' fun e w'' => e = .returned (.bool true) ∧ w' = w'' :=
          fun w' => l1In_yes r 1 3 w' hin.1 hin.2
        by_cases h24 : k ≤ 24
        · have h24i : (k : Int) ≤ 24 := by omega
          have hb : isW r zs = true := by rw [hend]; simp; omega
          replace hb := hidI hb
          clear hend hin
          go_wp2_with fail
          refine (hcall _).mono ?_
          rintro e w3 ⟨rfl, rfl⟩
          go_wp2
          go_ret
          exact ⟨ret_bool hb.out.symm, _, rfl⟩
        · have h24i : ¬ (k : Int) ≤ 24 := by omega
          have hb : isW r zs = false := by rw [hend]; simp; omega
          replace hb := hidI hb
          clear hend hin
          go_wp2_with fail
          refine (hcall _).mono ?_
          rintro e w3 ⟨rfl, rfl⟩
          go_wp2
          go_ret
          exact ⟨ret_bool (by rw [hb.out, decide_eq_false_iff_not]; omega), _, rfl⟩
      · have hcall : ∀ w', Calls Tryz.prog 34 #[.int .i64 r, .int .i64 1, .int .i64 3] w' fun e w'' => e = .returned (.bool false) ∧ w' = w'' :=
          fun w' => l1In_no r 1 3 w' (by omega)
        have hb : isW r zs = false := by rw [hend]; simp; omega
        replace hb := hidI hb
        clear hend hin
        go_wp2_with fail
        refine (hcall _).mono ?_
        rintro e w3 ⟨rfl, rfl⟩
        go_wp2
        go_ret
        exact ⟨ret_bool hb.out.symm, _, rfl⟩
end Go.Proofs.YtgngfffmkjckdaaGreatDoor

namespace Go.Proofs.YtgngfffmkjckdaaGreatDoor
open Go.RowKit
set_option linter.unusedVariables false

end Go.Proofs.YtgngfffmkjckdaaGreatDoor

namespace Go.Proofs.YtgngfffmkjckdaaGreatDoor
open Go.RowKit
set_option linter.unusedVariables false

theorem cmp_head (a b : Nat) : ((a : Int) != (b : Int)) = !(decide (a = b)) := by
  rw [Bool.eq_iff_iff]; simp; omega
end Go.Proofs.YtgngfffmkjckdaaGreatDoor
