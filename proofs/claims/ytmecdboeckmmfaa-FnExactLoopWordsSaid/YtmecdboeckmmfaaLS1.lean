/- Slices of slices of ints that can be read; equal ones compare as equal; held marks (tools/ls1.py). -/
import Derived.Test.YtmecdboeckmmfaaHK
namespace Go.Proofs.Ytmecdboeckmmfaa
open Go.RowKit
set_option linter.unusedVariables false
set_option linter.unusedSimpArgs false

/-- v can be read as the list of lists zss; all cells lie below block B. -/
def ReadSS (B : Nat) (w : World) (v : Value) (zss : List (List Int)) : Prop :=
  zss.length ≤ 1000000000000 ∧ ∃ a cap, v = .slice a zss.length cap ∧ ((a = none → cap = 0) ∧ zss.length ≤ cap) ∧ (zss = [] ∨ ∃ b off, a = some ⟨b, off, none⟩ ∧ b < B ∧ ∀ i, i < zss.length → ∃ u, w.cell? ⟨b, off + i, none⟩ = some u ∧ ReadI B w u (zss.getD i []))
theorem ReadSS.below {B : Nat} {w w' : World} {v : Value} {zss : List (List Int)} (h : ReadSS B w v zss) (hb : Below B w w') : ReadSS B w' v zss := by
  obtain ⟨hl, a, cap, hv, hn, hc⟩ := h
  refine ⟨hl, a, cap, hv, hn, hc.imp id ?_⟩
  rintro ⟨b, off, ha, hB, hcell⟩
  refine ⟨b, off, ha, hB, fun i hi => ?_⟩
  obtain ⟨u, h1, h2⟩ := hcell i hi
  exact ⟨u, by rw [hb.cell (p := ⟨b, off + i, none⟩) hB]; exact h1, h2.below hb⟩
theorem ReadSS.mono {B B' : Nat} {w : World} {v : Value} {zss : List (List Int)} (h : ReadSS B w v zss) (hB : B ≤ B') : ReadSS B' w v zss := by
  obtain ⟨hl, a, cap, hv, hn, hc⟩ := h
  refine ⟨hl, a, cap, hv, hn, hc.imp id ?_⟩
  rintro ⟨b, off, ha, hb, hcell⟩
  refine ⟨b, off, ha, by omega, fun i hi => ?_⟩
  obtain ⟨u, h1, h2⟩ := hcell i hi
  exact ⟨u, h1, h2.mono hB⟩
theorem ReadSS.at_ {B : Nat} {w : World} {a : Option Addr} {n cap : Nat} {zss : List (List Int)} (h : ReadSS B w (.slice a n cap) zss) (i : Nat) (hi : i < zss.length) :
    ∃ b off u, a = some ⟨b, off, none⟩ ∧ b < B ∧ w.cell? ⟨b, off + i, none⟩ = some u ∧ ReadI B w u (zss.getD i []) := by
  obtain ⟨_, a', cap', hv, _, hr⟩ := h
  simp only [Value.slice.injEq] at hv
  obtain ⟨rfl, _, rfl⟩ := hv
  rcases hr with h0 | ⟨b, off, ha, hB, hc⟩
  · rw [h0] at hi; simp at hi
  · obtain ⟨u, h1, h2⟩ := hc i hi
    exact ⟨b, off, u, ha, hB, h1, h2⟩
set_option maxHeartbeats 1600000 in
theorem eqSS_same (w : World) (B : Nat) (v1 v2 : Value) (zss : List (List Int)) (h1 : ReadSS B w v1 zss) (h2 : ReadSS B w v2 zss) :
    Calls Try.prog 15 #[v1, v2] w (BoolRet w true) := by
  have h1' := h1
  have h2' := h2
  obtain ⟨hl, a1, cap1, rfl, _, _⟩ := h1'
  obtain ⟨_, a2, cap2, rfl, _, _⟩ := h2'
  obtain ⟨n, hn⟩ : ∃ n, n = zss.length := ⟨_, rfl⟩
  rw [← hn] at hl h1 h2 ⊢
  have hcl : ((n : Int) != (n : Int)) = false := by simp
  replace hn := hidI hn
  replace h1 := hidI h1
  replace h2 := hidI h2
  go_enter Try.func15, Try.ntmps15
  go_wp2
  go_loopg [5] n (fun g i wr => ∃ k m : Nat, k + g = n ∧ i = .int .i64 k ∧ Hid (wr = w.drewN m))
  case atStart => exact ⟨0, 0, by omega, rfl, hidI rfl⟩
  case round =>
    obtain ⟨k, m, hk, rfl, hw⟩ := hrel
    by_cases hlt : k < n
    · have hki : (k : Int) < (n : Int) := by omega
      obtain ⟨b1, o1, u1, rfl, hb1, c1, r1⟩ := h1.out.at_ k (by have := hn.out; omega)
      obtain ⟨b2, o2, u2, rfl, hb2, c2, r2⟩ := h2.out.at_ k (by have := hn.out; omega)
      obtain ⟨wd, hwd⟩ : ∃ z, z = wr.drew := ⟨_, rfl⟩
      have hwd2 : wd = w.drewN (m + 1) := by rw [hwd, hw.out]; rfl
      have d0 : wd.cell? ⟨b1, o1 + k, none⟩ = some u1 := by rw [hwd2]; exact c1
      have d1 : wd.cell? ⟨b2, o2 + k, none⟩ = some u2 := by rw [hwd2]; exact c2
      have hcall := eqIntS_same wd B u1 u2 (zss.getD k []) (by rw [hwd2]; exact r1) (by rw [hwd2]; exact r2)
      replace hwd := hidI hwd
      replace hwd2 := hidI hwd2
      replace hk := hidI hk
      clear c1 c2 r1 r2
      go_wp2
      refine hideQ (fun _ _ d _ _ h => by cases d <;> exact h) (fun Q' hnorm hpan => ?_)
      refine wp_region_held_drew (S := (fun z => z.cell? ⟨b1, o1 + k, none⟩ = some u1 ∧ z.cell? ⟨b2, o2 + k, none⟩ = some u2)) (by kernel_rfl) ?_ (fun hHeld => ?_)
      · try dsimp only
        rw [← hwd.out]
        ((repeat' apply And.intro) <;> assumption)
      rw [← hwd.out] at hHeld ⊢
      refine take_at 0 17 (v := ?_) rfl (by kernel_rfl) (by kernel_rfl) (by kernel_rfl) (by kernel_rfl) hpan (Or.inl ⟨by rfl, ?_⟩) (by assumption) ?_
      rotate_left
      · intro w hSw; (try dsimp only at hSw); go_simp; with_reducible rfl
      simp only [Act.put, List.setIfInBounds_toArray, List.set_cons_zero, List.set_cons_succ]
      refine take_at 1 18 (v := ?_) rfl (by kernel_rfl) (by kernel_rfl) (by kernel_rfl) (by kernel_rfl) hpan (Or.inl ⟨by rfl, ?_⟩) (by assumption) ?_
      rotate_left
      · intro w hSw; (try dsimp only at hSw); go_simp; with_reducible rfl
      simp only [Act.put, List.setIfInBounds_toArray, List.set_cons_zero, List.set_cons_succ]
      refine take_at 2 19 (v := ?_) rfl (by kernel_rfl) (by kernel_rfl) (by kernel_rfl) (by kernel_rfl) hpan (Or.inl ⟨by rfl, ?_⟩) (by assumption) ?_
      rotate_left
      · intro w hSw; (try dsimp only at hSw); go_simp; with_reducible rfl
      simp only [Act.put, List.setIfInBounds_toArray, List.set_cons_zero, List.set_cons_succ]
      refine take_at 3 20 (v := ?_) rfl (by kernel_rfl) (by kernel_rfl) (by kernel_rfl) (by kernel_rfl) hpan (Or.inl ⟨by rfl, ?_⟩) (by assumption) ?_
      rotate_left
      · intro w hSw; (try dsimp only at hSw); go_simp; with_reducible rfl
      simp only [Act.put, List.setIfInBounds_toArray, List.set_cons_zero, List.set_cons_succ]
      refine take_at 4 21 (v := ?_) rfl (by kernel_rfl) (by kernel_rfl) (by kernel_rfl) (by kernel_rfl) hpan (Or.inl ⟨by rfl, ?_⟩) (by assumption) ?_
      rotate_left
      · intro w hSw; (try dsimp only at hSw); go_simp; with_reducible rfl
      simp only [Act.put, List.setIfInBounds_toArray, List.set_cons_zero, List.set_cons_succ]
      refine take_at 5 22 (v := ?_) rfl (by kernel_rfl) (by kernel_rfl) (by kernel_rfl) (by kernel_rfl) hpan (Or.inl ⟨by rfl, ?_⟩) (by assumption) ?_
      rotate_left
      · intro w hSw; (try dsimp only at hSw); go_simp; with_reducible rfl
      simp only [Act.put, List.setIfInBounds_toArray, List.set_cons_zero, List.set_cons_succ]
      refine take_at 6 23 (v := ?_) rfl (by kernel_rfl) (by kernel_rfl) (by kernel_rfl) (by kernel_rfl) hpan (Or.inl ⟨by rfl, ?_⟩) (by assumption) ?_
      rotate_left
      · intro w hSw; (try dsimp only at hSw); go_simp; with_reducible rfl
      simp only [Act.put, List.setIfInBounds_toArray, List.set_cons_zero, List.set_cons_succ]
      refine take_at 7 24 (v := ?_) rfl (by kernel_rfl) (by kernel_rfl) (by kernel_rfl) (by kernel_rfl) hpan (Or.inl ⟨by rfl, ?_⟩) (by assumption) ?_
      rotate_left
      · intro w hSw; (try dsimp only at hSw); go_simp; with_reducible rfl
      simp only [Act.put, List.setIfInBounds_toArray, List.set_cons_zero, List.set_cons_succ]
      refine wpAnyH_ready (rs := [8]) (by kernel_rfl) (by simp) ?_
      refine AllReadyH.cons rfl (fun K hK => ?_) AllReadyH.nil
      rw [if_pos (by rfl)]
      go_simp
      go_at_call 27
      (with_reducible refine hcall.mono ?_)
      rintro e w3 ⟨rfl, m3, rfl⟩
      have f0 : (wd.drewN m3).cell? ⟨b1, o1 + k, none⟩ = some u1 := d0
      have f1 : (wd.drewN m3).cell? ⟨b2, o2 + k, none⟩ = some u2 := d1
      refine hK.out _ _ ?_ (fun hHeld => ?_)
      · try dsimp only
        ((repeat' apply And.intro) <;> assumption)
      clear hK
      try simp only [Act.put, List.setIfInBounds_toArray, List.set_cons_zero, List.set_cons_succ]
      refine take_at 9 26 (v := ?_) rfl (by kernel_rfl) (by kernel_rfl) (by kernel_rfl) (by kernel_rfl) hpan (Or.inl ⟨by rfl, ?_⟩) (by assumption) ?_
      rotate_left
      · intro w hSw; (try dsimp only at hSw); go_simp; with_reducible rfl
      simp only [Act.put, List.setIfInBounds_toArray, List.set_cons_zero, List.set_cons_succ]
      refine wpAnyH_done (by kernel_rfl) ?_ _
      refine hnorm _ _ ?_
      clear hnorm hpan
      repeat clear hHeld
      try simp only [Exit.then]
      go_wp2
      go_roundg (n - (k + 1))
      case rel => exact ⟨k + 1, m + 1 + m3, by have := hk.out; omega, by go_num, hidI (by rw [hwd2.out, World.drewN_drewN])⟩
      case measure => have := hk.out; omega
    · obtain rfl : k = n := by omega
      have hki : ¬ (k : Int) < (k : Int) := by omega
      replace hk := hidI hk
      go_wp2
      go_ret
      exact ⟨ret_bool rfl, m, hw.out⟩
/-- The marks of a list of lists of these lengths, from k on. -/
def marksSS (k : Int) : List Nat → List (List Int)
  | [] => []
  | n :: ns => marks k n :: marksSS (k + n) ns
def sumN : List Nat → Nat
  | [] => 0
  | n :: ns => n + sumN ns
theorem marksSS_length : ∀ (ns : List Nat) (k : Int), (marksSS k ns).length = ns.length := by
  intro ns
  induction ns with
  | nil => intro k; rfl
  | cons n ns ih => intro k; simp [marksSS, ih]
theorem marksSS_getD : ∀ (ns : List Nat) (k : Int) (i : Nat), i < ns.length → (marksSS k ns).getD i [] = marks (k + (sumN (ns.take i) : Nat)) (ns.getD i 0) := by
  intro ns
  induction ns with
  | nil => intro k i hi; simp at hi
  | cons n ns ih =>
    intro k i hi
    cases i with
    | zero => simp [marksSS, sumN]
    | succ i =>
      have := ih (k + n) i (by simpa using hi)
      rw [marksSS, List.getD_cons_succ, this, List.getD_cons_succ, List.take_succ_cons, sumN]
      congr 1
      push_cast
      omega
theorem sumN_take : ∀ (ns : List Nat) (i : Nat), i < ns.length → sumN (ns.take (i + 1)) = sumN (ns.take i) + ns.getD i 0 := by
  intro ns
  induction ns with
  | nil => intro i hi; simp at hi
  | cons n ns ih =>
    intro i hi
    cases i with
    | zero => simp [sumN]
    | succ i =>
      have := ih i (by simpa using hi)
      rw [List.take_succ_cons, sumN, this, List.take_succ_cons, sumN, List.getD_cons_succ]
      omega
theorem sumN_le : ∀ (ns : List Nat) (i : Nat), sumN (ns.take i) ≤ sumN ns := by
  intro ns
  induction ns with
  | nil => intro i; simp [sumN]
  | cons n ns ih =>
    intro i
    cases i with
    | zero => simp [sumN]
    | succ i => have := ih i; simp [sumN]; omega
set_option maxHeartbeats 1600000 in
theorem heldSS_any (w : World) (B : Nat) (v : Value) (ns : List Nat) (k0 : Int) (h : ReadSS B w v (marksSS k0 ns)) (hk : 0 ≤ k0) (hk2 : k0 + (sumN ns : Nat) ≤ 1000000000) :
    Calls Try.prog 19 #[v, .int .i64 k0] w fun e w' => e = .returned (.int .i64 (k0 + (sumN ns : Nat))) ∧ w = w' := by
  have h' := h
  obtain ⟨hl, a, cap, rfl, _, _⟩ := h'
  obtain ⟨n, hn⟩ : ∃ n, n = (marksSS k0 ns).length := ⟨_, rfl⟩
  rw [← hn] at hl h ⊢
  have hnn : n = ns.length := by rw [hn, marksSS_length]
  replace hn := hidI hn
  replace h := hidI h
  replace hnn := hidI hnn
  go_enter Try.func19, Try.ntmps19
  go_wp2
  go_loopg [1, 5] n (fun g kk i wr => ∃ k : Nat, k + g = n ∧ i = .int .i64 k ∧ kk = .int .i64 (k0 + (sumN (ns.take k) : Nat)) ∧ Hid (wr = w))
  case atStart => exact ⟨0, by omega, rfl, by simp [sumN], hidI rfl⟩
  case round =>
    obtain ⟨k, hk9, rfl, rfl, hw⟩ := hrel
    have hw' := hw.out
    subst hw'
    have hsl := sumN_le ns k
    by_cases hlt : k < n
    · have hki : (k : Int) < (n : Int) := by omega
      obtain ⟨b, off, u, rfl, hb, c, r⟩ := h.out.at_ k (by have := hn.out; omega)
      have hkl : k < ns.length := by have := hnn.out; omega
      rw [marksSS_getD ns k0 k hkl] at r
      have hst := sumN_take ns k hkl
      have hsl2 := sumN_le ns (k + 1)
      have hcall := heldIntS_any wr B u (ns.getD k 0) (k0 + (sumN (ns.take k) : Nat)) r (by omega) (by omega) (by omega)
      obtain ⟨q, hq⟩ : ∃ q : Int, q = k0 + (sumN (ns.take k) : Nat) + (ns.getD k 0 : Nat) := ⟨_, rfl⟩
      have hq2 : q = k0 + (sumN (ns.take (k + 1)) : Nat) := by rw [hq, hst]; push_cast; omega
      have hq0 : ¬ q < 0 := by omega
      rw [← hq] at hcall
      replace hq := hidI hq
      replace hq2 := hidI hq2
      replace hst := hidI hst
      replace hk9 := hidI hk9
      replace r := hidI r
      obtain ⟨q0, hq9⟩ : ∃ q : Int, q = k0 + (sumN (ns.take k) : Nat) := ⟨_, rfl⟩
      rw [← hq9] at hcall ⊢
      replace hq9 := hidI hq9
      go_wp2_with fail
      refine hcall.mono ?_
      rintro e w3 ⟨rfl, rfl⟩
      clear hcall
      go_wp2
      go_roundg (n - (k + 1))
      case rel => exact ⟨k + 1, by have := hk9.out; omega, by go_num, by rw [hq2.out], hidI rfl⟩
      case measure => have := hk9.out; omega
    · obtain rfl : k = n := by omega
      have hki : ¬ (k : Int) < (k : Int) := by omega
      have hfull : ns.take k = ns := List.take_of_length_le (by have := hnn.out; omega)
      rw [hfull]
      replace hfull := hidI hfull
      replace hk9 := hidI hk9
      go_wp2
      go_ret
      exact ⟨ret_i rfl, rfl⟩
end Go.Proofs.Ytmecdboeckmmfaa
