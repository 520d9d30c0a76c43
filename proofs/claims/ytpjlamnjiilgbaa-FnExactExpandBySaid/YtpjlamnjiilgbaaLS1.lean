/- Slices of slices of ints that can be read; equal ones compare as equal; held marks (tools/ls1.py). -/
import Derived.Test.YtpjlamnjiilgbaaHK
namespace Go.Proofs.Ytpjlamnjiilgbaa
open Go.RowKit
set_option linter.unusedVariables false
set_option linter.unusedSimpArgs false

/-- v can be read as the list of lists zss; all cells lie below block B. -/
def ReadSS (B : Nat) (w : World) (v : Value) (zss : List (List Int)) : Prop :=
  zss.length ≤ 1000000000000 ∧ ∃ a cap, v = .slice a zss.length cap ∧ ((a = none → cap = 0) ∧ zss.length ≤ cap) ∧ (zss = [] ∨ ∃ b off, a = some ⟨b, off, none⟩ ∧ b < B ∧ ∀ i, i < zss.length → ∃ u, w.cell? ⟨b, off + i, none⟩ = some u ∧ ReadI B w u (zss.getD i []))
theorem ReadSS.below {B : Nat} {w w' : World} {v : Value} {zss : List (List Int)} (h : ReadSS B w v zss) (hb : Below B w w') : ReadSS B w' v zss := by
  obtain ⟨hl, a, cap, hv, hn, hc⟩ := h
  refine ⟨hl, a, cap, hv, hn, hc.imp id ?_⟩
  rintro ⟨b, off, ha, hB, hcell⟩
  refine ⟨b, off, ha, hB, fun i hi => ?_⟩
  obtain ⟨u, h1, h2⟩ := hcell i hi
  exact ⟨u, by rw [hb.cell (p := ⟨b, off + i, none⟩) hB]; exact h1, h2.below hb⟩
theorem ReadSS.mono {B B' : Nat} {w : World} {v : Value} {zss : List (List Int)} (h : ReadSS B w v zss) (hB : B ≤ B') : ReadSS B' w v zss := by
  obtain ⟨hl, a, cap, hv, hn, hc⟩ := h
  refine ⟨hl, a, cap, hv, hn, hc.imp id ?_⟩
  rintro ⟨b, off, ha, hb, hcell⟩
  refine ⟨b, off, ha, by omega, fun i hi => ?_⟩
  obtain ⟨u, h1, h2⟩ := hcell i hi
  exact ⟨u, h1, h2.mono hB⟩
theorem ReadSS.at_ {B : Nat} {w : World} {a : Option Addr} {n cap : Nat} {zss : List (List Int)} (h : ReadSS B w (.slice a n cap) zss) (i : Nat) (hi : i < zss.length) :
    ∃ b off u, a = some ⟨b, off, none⟩ ∧ b < B ∧ w.cell? ⟨b, off + i, none⟩ = some u ∧ ReadI B w u (zss.getD i []) := by
  obtain ⟨_, a', cap', hv, _, hr⟩ := h
  simp only [Value.slice.injEq] at hv
  obtain ⟨rfl, _, rfl⟩ := hv
  rcases hr with h0 | ⟨b, off, ha, hB, hc⟩
  · rw [h0] at hi; simp at hi
  · obtain ⟨u, h1, h2⟩ := hc i hi
    exact ⟨b, off, u, ha, hB, h1, h2⟩
set_option maxHeartbeats 1600000 in
theorem eqSS_same (w : World) (B : Nat) (v1 v2 : Value) (zss : List (List Int)) (h1 : ReadSS B w v1 zss) (h2 : ReadSS B w v2 zss) :
    Calls Try.prog 10 #[v1, v2] w (BoolRet w true) := by
  have h1' := h1
  have h2' := h2
  obtain ⟨hl, a1, cap1, rfl, _, _⟩ := h1'
  obtain ⟨_, a2, cap2, rfl, _, _⟩ := h2'
  obtain ⟨n, hn⟩ : ∃ n, n = zss.length := ⟨_, rfl⟩
  rw [← hn] at hl h1 h2 ⊢
  have hcl : ((n : Int) != (n : Int)) = false := by simp
  replace hn := hidI hn
  replace h1 := hidI h1
  replace h2 := hidI h2
  go_enter Try.func10, Try.ntmps10
  go_wp2
  go_loopg [5] n (fun g i wr => ∃ k m : Nat, k + g = n ∧ i = .int .i64 k ∧ Hid (wr = w.drewN m))
  case atStart => exact ⟨0, 0, by omega, rfl, hidI rfl⟩
  case round =>
    obtain ⟨k, m, hk, rfl, hw⟩ := hrel
    by_cases hlt : k < n
    · have hki : (k : Int) < (n : Int) := by omega
      obtain ⟨b1, o1, u1, rfl, hb1, c1, r1⟩ := h1.out.at_ k (by have := hn.out; omega)
      obtain ⟨b2, o2, u2, rfl, hb2, c2, r2⟩ := h2.out.at_ k (by have := hn.out; omega)
      obtain ⟨wd, hwd⟩ : ∃ z, z = wr.drew := ⟨_, rfl⟩
      have hwd2 : wd = w.drewN (m + 1) := by rw [hwd, hw.out]; rfl
      have d0 : wd.cell? ⟨b1, o1 + k, none⟩ = some u1 := by rw [hwd2]; exact c1
      have d1 : wd.cell? ⟨b2, o2 + k, none⟩ = some u2 := by rw [hwd2]; exact c2
      have hcall := eqIntS_same wd B u1 u2 (zss.getD k []) (by rw [hwd2]; exact r1) (by rw [hwd2]; exact r2)
      replace hwd := hidI hwd
      replace hwd2 := hidI hwd2
      replace hk := hidI hk
      clear c1 c2 r1 r2
      go_wp2
      refine hideQ (fun _ _ d _ _ h => by cases d <;> exact h) (fun Q' hnorm hpan => ?_)
      refine wp_region_held_drew (S := (fun z => z.cell? ⟨b1, o1 + k, none⟩ = some u1 ∧ z.cell? ⟨b2, o2 + k, none⟩ = some u2)) (by kernel_rfl) ?_ (fun hHeld => ?_)
      · try dsimp only
        rw [← hwd.out]
        ((repeat' apply And.intro) <;> assumption)
      rw [← hwd.out] at hHeld ⊢
      refine tk 0 17 ?_
      refine tk 1 18 ?_
      refine tk 2 19 ?_
      refine tk 3 20 ?_
      refine tk 4 21 ?_
      refine tk 5 22 ?_
      refine tk 6 23 ?_
      refine tk 7 24 ?_
      refine rd 8 (fun K hK => ?_)
      rw [if_pos (by rfl)]
      go_simp
      go_at_call 9
      (with_reducible refine hcall.mono ?_)
      rintro e w3 ⟨rfl, m3, rfl⟩
      have f0 : (wd.drewN m3).cell? ⟨b1, o1 + k, none⟩ = some u1 := d0
      have f1 : (wd.drewN m3).cell? ⟨b2, o2 + k, none⟩ = some u2 := d1
      refine hK.out _ _ ?_ (fun hHeld => ?_)
      · try dsimp only
        ((repeat' apply And.intro) <;> assumption)
      clear hK
      try simp only [Act.put, List.setIfInBounds_toArray, List.set_cons_zero, List.set_cons_succ]
      refine tk 9 26 ?_
      refine wpAnyH_done (by kernel_rfl) ?_ _
      refine hnorm _ _ ?_
      clear hnorm hpan
      repeat clear hHeld
      try simp only [Exit.then]
      go_wp2
      go_roundg (n - (k + 1))
      case rel => exact ⟨k + 1, m + 1 + m3, by have := hk.out; omega, by go_num, hidI (by rw [hwd2.out, World.drewN_drewN])⟩
      case measure => have := hk.out; omega
    · obtain rfl : k = n := by omega
      have hki : ¬ (k : Int) < (k : Int) := by omega
      replace hk := hidI hk
      go_wp2
      go_ret
      exact ⟨ret_bool rfl, m, hw.out⟩
/-- The marks of a list of lists of these lengths, from k on. -/
def marksSS (k : Int) : List Nat → List (List Int)
  | [] => []
  | n :: ns => marks k n :: marksSS (k + n) ns
def sumN : List Nat → Nat
  | [] => 0
  | n :: ns => n + sumN ns
theorem marksSS_length : ∀ (ns : List Nat) (k : Int), (marksSS k ns).length = ns.length := by
  intro ns
  induction ns with
  | nil => intro k; rfl
  | cons n ns ih => intro k; simp [marksSS, ih]
theorem marksSS_getD : ∀ (ns : List Nat) (k : Int) (i : Nat), i < ns.length → (marksSS k ns).getD i [] = marks (k + (sumN (ns.take i) : Nat)) (ns.getD i 0) := by
  intro ns
  induction ns with
  | nil => intro k i hi; simp at hi
  | cons n ns ih =>
    intro k i hi
    cases i with
    | zero => simp [marksSS, sumN]
    | succ i =>
      have := ih (k + n) i (by simpa using hi)
      rw [marksSS, List.getD_cons_succ, this, List.getD_cons_succ, List.take_succ_cons, sumN]
      congr 1
      push_cast
      omega
theorem sumN_take : ∀ (ns : List Nat) (i : Nat), i < ns.length → sumN (ns.take (i + 1)) = sumN (ns.take i) + ns.getD i 0 := by
  intro ns
  induction ns with
  | nil => intro i hi; simp at hi
  | cons n ns ih =>
    intro i hi
    cases i with
    | zero => simp [sumN]
    | succ i =>
      have := ih i (by simpa using hi)
      rw [List.take_succ_cons, sumN, this, List.take_succ_cons, sumN, List.getD_cons_succ]
      omega
theorem sumN_le : ∀ (ns : List Nat) (i : Nat), sumN (ns.take i) ≤ sumN ns := by
  intro ns
  induction ns with
  | nil => intro i; simp [sumN]
  | cons n ns ih =>
    intro i
    cases i with
    | zero => simp [sumN]
    | succ i => have := ih i; simp [sumN]; omega
end Go.Proofs.Ytpjlamnjiilgbaa
