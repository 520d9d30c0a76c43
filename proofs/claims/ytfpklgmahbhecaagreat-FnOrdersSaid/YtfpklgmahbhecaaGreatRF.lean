import Derived.Test.YtfpklgmahbhecaaGreatQD
import Derived.Maps.AppendAt
import Derived.Test.YtfpklgmahbhecaaGreatRA
import Derived.BigQuiet
import Derived.Test.YtfpklgmahbhecaaGreatQA
namespace Go.Proofs.YtfpklgmahbhecaaGreat
open Go.RowKit
set_option linter.unusedVariables false
theorem RowI.later {w w' : World} {lo hi : Nat} {v : Value} {zs : List Int} (h : RowI w lo hi v zs) (hb : Below hi w w') (hs : hi ≤ w'.heap.size) : ReadI w'.heap.size w' v zs :=
 ((h.read).below hb).mono hs
theorem OwnsI.later {w w' : World} {base B : Nat} {v : Value} {zs : List Int} (h : OwnsI w base v zs) (hb : Below B w w') (hB : w.heap.size ≤ B) : OwnsI w' base v zs := by
 obtain ⟨hl, h1 | ⟨g, cap, cur, hv, hg, hh, hr⟩⟩ := h
 · exact ⟨hl, .inl h1⟩
 · have hlt : g < w.heap.size := (Array.getElem?_eq_some_iff.1 hh).1
   exact ⟨hl, .inr ⟨g, cap, cur, hv, hg, by rw [hb.block g (by omega)]; exact hh, hr⟩⟩
def okAt (rank : Int) (zs : List Int) (i : Nat) : Prop :=
 zs.getD i 0 ≠ 0 ∧ ng rank ≤ zs.getD i 0 ∧ zs.getD i 0 ≤ rank ∧ (0 < i → zs.getD i 0 ≠ ng (zs.getD (i - 1) 0))
instance (rank : Int) (zs : List Int) (i : Nat) : Decidable (okAt rank zs i) := by unfold okAt; infer_instance
def isW (rank : Int) (zs : List Int) : Bool := decide ((∀ i, i < zs.length → okAt rank zs i) ∧ 1 ≤ rank ∧ rank ≤ 3 ∧ zs.length ≤ 24)
theorem isW_bad {rank : Int} {zs : List Int} {i : Nat} (hi : i < zs.length) (h : ¬ okAt rank zs i) : isW rank zs = false := by
 unfold isW
 rw [decide_eq_false_iff_not]
 exact fun h' => h (h'.1 i hi)
theorem isW_end {rank : Int} {zs : List Int} (h : ∀ i, i < zs.length → okAt rank zs i) : isW rank zs = decide (1 ≤ rank ∧ rank ≤ 3 ∧ zs.length ≤ 24) := by
 unfold isW
 rw [decide_eq_decide]
 exact ⟨fun h' => h'.2, fun h' => ⟨h, h'⟩⟩
set_option maxHeartbeats 1600000 in
theorem specIsW (w : World) (B : Nat) (v : Value) (zs : List Int) (r : Int) (h : ReadI B w v zs) :
 Calls Tryz.prog 91 #[.int .i64 r, v] w (BoolRet w (isW r zs)) := by
 have hr := h
 obtain ⟨hl, a, cap, rfl, _, hq⟩ := h
 clear hq
 obtain ⟨n, hn⟩ := exq zs.length
 rw [← hn] at hr hl ⊢
 replace hn := hidI hn
 replace hr := hidI hr
 go_enter Tryz.func91, Tryz.ntmps91
 go_wp2
 go_loopw [5] (fun i wr => ∃ k m : Nat, k ≤ n ∧ i = .int .i64 k ∧ wr = w.drewN m ∧ ∀ i, i < k → okAt r zs i) (fun i _ => n - (intOf i).toNat)
 case atStart => exact ⟨0, 0, Nat.zero_le _, rfl, rfl, fun i h => by omega⟩
 case round =>
  obtain ⟨k, m, hk, rfl, rfl, heq⟩ := hrel
  by_cases hlt : k < n
  · obtain ⟨x, hx⟩ := exq (zs.getD k 0)
    obtain ⟨y, hy⟩ := exq (zs.getD (k - 1) 0)
    obtain ⟨b, off, rfl, hB, hc⟩ := hr.out.at_ k (by have := hn.out; omega)
    have hcy : 0 < k → w.cell? ⟨b, off + (k - 1), none⟩ = some (.int .i64 y) := by
     intro h0
     obtain ⟨b', off', e, _, hc'⟩ := hr.out.at_ (k - 1) (by have := hn.out; omega)
     cases e
     rw [hy]
     exact hc'
    rw [← hx] at hc
    obtain ⟨w0, hw0⟩ := exq (w.drewN m)
    have hcx : w0.cell? ⟨b, off + k, none⟩ = some (.int .i64 x) := by rw [hw0]; exact hc
    replace hcy : 0 < k → w0.cell? ⟨b, off + (k - 1), none⟩ = some (.int .i64 y) := by rw [hw0]; exact hcy
    have hlt2 : (k : Int) < (n : Int) := by omega
    have hokd : okAt r zs k ↔ x ≠ 0 ∧ ng r ≤ x ∧ x ≤ r ∧ (0 < k → x ≠ ng y) := by unfold okAt; rw [← hx, ← hy]
    have hbad : ¬ okAt r zs k → isW r zs = false := fun h => isW_bad (by have := hn.out; omega) h
    have hnext : okAt r zs k → ∀ i, i < k + 1 → okAt r zs i := by
     intro h i hi
     by_cases e : i = k
     · subst e; exact h
     · exact heq i (by omega)
    rw [← hw0]
    clear hc heq
    replace hw0 := hidI hw0
    replace hx := hidI hx
    replace hy := hidI hy
    by_cases hx0 : x = 0
    · have hb := hidI (hbad (by rw [hokd]; exact fun h => h.1 hx0))
      have hx1 : (x == 0) = true := by rw [beq_iff_eq]; exact hx0
      clear hbad hokd hnext hcy hx0
      go_wp2
      go_quiet (fail)
      go_wp2
      go_ret
      exact ⟨ret_bool hb.out.symm, _, by rw [hw0.out]; exact World.drewN_drewN ..⟩
    · have hx1 : (x == 0) = false := by rw [beq_eq_false_iff_ne]; exact hx0
      have hxn := hidI hx0
      by_cases hin : ng r ≤ x ∧ x ≤ r
      · have hcall : ∀ w', Calls Tryz.prog 43 #[.int .i64 x, .int .i64 (wrap64 (-r)), .int .i64 r] w' fun e w'' => e = .returned (.bool true) ∧ w'' = w' :=
         fun w' => (l1In_yes x (ng r) r w' hin.1 hin.2).mono (fun e w'' h => ⟨h.1, h.2.symm⟩)
        have hin' := hidI hin
        clear hin
        by_cases hk0 : 0 < k
        · have hk1 : decide (0 < (k : Int)) = true := by simp; omega
          have hk2 : (1 : Int) ≤ (k : Int) := by omega
          have hcell := hcy hk0
          obtain ⟨k', rfl⟩ : ∃ k', k = k' + 1 := ⟨k - 1, by omega⟩
          rw [show k' + 1 - 1 = k' by omega] at hcell
          have hidx : ((k' : Int) + 1 - 1) = (k' : Int) := by omega
          by_cases hxy : x = ng y
          · have hb := hidI (hbad (by rw [hokd]; exact fun h => h.2.2.2 hk0 hxy))
            have hxy1 : (x == wrap64 (-y)) = true := by rw [beq_iff_eq]; exact hxy
            clear hbad hokd hnext hcy hx0 hxy
            go_wp2
            go_quiet ((go_at_call 43; exact Calls.quiet_of_same (hcall _)))
            go_wp2
            go_ret
            exact ⟨ret_bool hb.out.symm, _, by rw [hw0.out]; exact World.drewN_drewN ..⟩
          · have hs := hidI (hnext (hokd.2 ⟨hx0, hin'.out.1, hin'.out.2, fun _ => hxy⟩))
            have hxy1 : (x == wrap64 (-y)) = false := by rw [beq_eq_false_iff_ne]; exact hxy
            clear hbad hokd hnext hcy hx0 hxy
            go_wp2
            go_quiet ((go_at_call 43; exact Calls.quiet_of_same (hcall _)))
            go_wp2
            go_roundw
            case rel => exact ⟨k' + 1 + 1, _, by omega, by go_num, by rw [hw0.out]; exact World.drewN_drewN .., hs.out⟩
            case measure => simp [intOf]; omega
        · have hk1 : decide (0 < (k : Int)) = false := by simp; omega
          have hs := hidI (hnext (hokd.2 ⟨hx0, hin'.out.1, hin'.out.2, fun h => absurd h hk0⟩))
          clear hbad hokd hnext hcy hx0
          go_wp2
          go_quiet ((go_at_call 43; exact Calls.quiet_of_same (hcall _)))
          go_wp2
          go_roundw
          case rel => exact ⟨k + 1, _, by omega, by go_num, by rw [hw0.out]; exact World.drewN_drewN .., hs.out⟩
          case measure => simp [intOf]; omega
      · have hcall : ∀ w', Calls Tryz.prog 43 #[.int .i64 x, .int .i64 (wrap64 (-r)), .int .i64 r] w' fun e w'' => e = .returned (.bool false) ∧ w'' = w' :=
         fun w' => (l1In_no x (ng r) r w' (by omega)).mono (fun e w'' h => ⟨h.1, h.2.symm⟩)
        have hb := hidI (hbad (by rw [hokd]; exact fun h => hin ⟨h.2.1, h.2.2.1⟩))
        clear hbad hokd hnext hcy hx0 hin
        go_wp2
        go_quiet ((go_at_call 43; exact Calls.quiet_of_same (hcall _)))
        go_wp2
        go_ret
        exact ⟨ret_bool hb.out.symm, _, by rw [hw0.out]; exact World.drewN_drewN ..⟩
  · obtain rfl : k = n := by omega
    have hend := isW_end (rank := r) (zs := zs) (by rw [← hn.out]; exact heq)
    rw [← hn.out] at hend
    clear heq
    by_cases hin : 1 ≤ r ∧ r ≤ 3
    · have hcall : ∀ w', Calls Tryz.prog 43 #[.int .i64 r, .int .i64 1, .int .i64 3] w' fun e w'' => e = .returned (.bool true) ∧ w' = w'' :=
       fun w' => l1In_yes r 1 3 w' hin.1 hin.2
      by_cases h24 : k ≤ 24
      · have h24i : (k : Int) ≤ 24 := by omega
        have hb : isW r zs = true := by rw [hend]; simp; omega
        replace hb := hidI hb
        clear hend hin
        go_wp2_with fail
        refine (hcall _).mono ?_
        rintro e w3 ⟨rfl, rfl⟩
        go_wp2
        go_ret
        exact ⟨ret_bool hb.out.symm, _, rfl⟩
      · have h24i : ¬ (k : Int) ≤ 24 := by omega
        have hb : isW r zs = false := by rw [hend]; simp; omega
        replace hb := hidI hb
        clear hend hin
        go_wp2_with fail
        refine (hcall _).mono ?_
        rintro e w3 ⟨rfl, rfl⟩
        go_wp2
        go_ret
        exact ⟨ret_bool (by rw [hb.out, decide_eq_false_iff_not]; omega), _, rfl⟩
    · have hcall : ∀ w', Calls Tryz.prog 43 #[.int .i64 r, .int .i64 1, .int .i64 3] w' fun e w'' => e = .returned (.bool false) ∧ w' = w'' :=
       fun w' => l1In_no r 1 3 w' (by omega)
      have hb : isW r zs = false := by rw [hend]; simp; omega
      replace hb := hidI hb
      clear hend hin
      go_wp2_with fail
      refine (hcall _).mono ?_
      rintro e w3 ⟨rfl, rfl⟩
      go_wp2
      go_ret
      exact ⟨ret_bool hb.out.symm, _, rfl⟩
end Go.Proofs.YtfpklgmahbhecaaGreat
