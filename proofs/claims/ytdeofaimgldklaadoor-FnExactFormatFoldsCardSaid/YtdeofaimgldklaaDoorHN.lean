/- Folds, their text: mathematics, and FormatFolds of the model (tools/hn.py). -/
import Derived.Test.YtdeofaimgldklaaDoorHF
import Derived.Test.YtdeofaimgldklaaDoorFmtI
import Derived.Test.YtdeofaimgldklaaDoorLW3
import Derived.Lib.Join
import Derived.Deep.LoopGhost
import Derived.Deep.RegionHeld3
namespace Go.Proofs.YtdeofaimgldklaaDoor
open Go.RowKit
set_option linter.unusedVariables false
set_option linter.unusedSimpArgs false

def LwStr (w : World) (s : ByteArray) (e : Ending) (w' : World) : Prop := e = .returned (.string s) ∧ Below w.heap.size w w'
theorem str_is {a T : ByteArray} (h : a.data.toList = T.data.toList) : Ending.returned (.string a) = .returned (.string T) := by
  have : a = T := by apply ByteArray.ext; exact Array.toList_inj.1 h
  rw [this]
theorem str_size (a : ByteArray) : a.size = a.data.toList.length := by rw [Array.length_toList]; rfl
theorem fmtB_text (n : Int) : (fmtB n).data.toList = Lib.itoa n := by simp [fmtB]
/-- The text of a fold. -/
def pieceF (f : tupF) : List UInt8 := Lib.itoa f.1 ++ 61 :: Lib.itoa f.2
def fmtFs (zs : List tupF) : List UInt8 := if zs = [] then [110, 111, 110, 101] else Lib.join (zs.map pieceF) [32]
def textF (zs : List tupF) : ByteArray := ⟨(fmtFs zs).toArray⟩
theorem textF_list (zs : List tupF) : (textF zs).data.toList = fmtFs zs := by simp [textF]
theorem pieceF_ne (f : tupF) : pieceF f ≠ [] := by unfold pieceF; simp
theorem jnF_snoc {xs : List (List UInt8)} {y : List UInt8} (h : xs ≠ []) : Lib.join (xs ++ [y]) [32] = Lib.join xs [32] ++ [32] ++ y := by
  obtain ⟨x, r, rfl⟩ := List.exists_cons_of_ne_nil h
  rw [List.cons_append, Lib.join_cons, Lib.join_cons]
  simp [Lib.joinTail]
theorem jnF_ne {zs : List tupF} (h : zs ≠ []) : Lib.join (zs.map pieceF) [32] ≠ [] := by
  obtain ⟨x, r, rfl⟩ := List.exists_cons_of_ne_nil h
  rw [List.map_cons, Lib.join_cons]
  intro e
  exact pieceF_ne x (List.append_eq_nil_iff.1 e).1
theorem take_F {zs : List tupF} {k : Nat} (h : k < zs.length) : (zs.take (k + 1)).map pieceF = (zs.take k).map pieceF ++ [pieceF (zs.getD k zeroF)] := by
  rw [List.take_add_one, List.getElem?_eq_getElem h, List.map_append, List.getD_eq_getElem?_getD, List.getElem?_eq_getElem h]
  rfl
theorem itoa_len {n : Int} (h : -9223372036854775808 ≤ n ∧ n ≤ 9223372036854775807) : (Lib.itoa n).length ≤ 1048576 := by
  have := fmtB_size h
  rw [str_size, fmtB_text] at this
  exact this
theorem pieceF_len {f : tupF} (h : (-9223372036854775808 ≤ f.1 ∧ f.1 ≤ 9223372036854775807) ∧ (-9223372036854775808 ≤ f.2 ∧ f.2 ≤ 9223372036854775807)) : (pieceF f).length ≤ 2097153 := by
  have h1 := itoa_len h.1
  have h2 := itoa_len h.2
  unfold pieceF
  rw [List.length_append, List.length_cons]
  omega
theorem lensF_le : ∀ zs : List tupF, InF zs → Lib.lens (zs.map pieceF) ≤ zs.length * 2097153 := by
  intro zs
  induction zs with
  | nil => intro _; simp [Lib.lens]
  | cons z zs ih =>
    intro h
    have h1 := ih (fun e he => h e (List.mem_cons_of_mem _ he))
    have h2 := pieceF_len (h z List.mem_cons_self)
    unfold Lib.lens at h1 ⊢
    simp only [List.map_cons, List.sum_cons, List.length_cons] at h1 ⊢
    omega
theorem jnF_len {zs : List tupF} (h : InF zs) : (Lib.join (zs.map pieceF) [32]).length ≤ zs.length * 2097154 := by
  have h1 := lensF_le zs h
  cases zs with
  | nil => simp [Lib.join_nil]
  | cons z zs =>
    rw [List.map_cons] at h1 ⊢
    rw [Lib.join_length]
    simp only [List.length_map, List.length_cons, List.length_nil] at h1 ⊢
    omega
theorem jnF_take {zs : List tupF} (h : InF zs) (k : Nat) : (Lib.join ((zs.take k).map pieceF) [32]).length ≤ k * 2097154 := by
  have h1 := jnF_len (zs := zs.take k) (fun e he => h e (List.mem_of_mem_take he))
  rw [List.length_take] at h1
  exact Nat.le_trans h1 (Nat.mul_le_mul_right _ (Nat.min_le_left _ _))
set_option maxRecDepth 100000 in
set_option maxHeartbeats 6400000 in
theorem specFmtFs (w : World) (v : Value) (zs : List tupF) (h : ReadF w.heap.size w v zs) (hi : InF zs) (hl : zs.length ≤ 1048576) :
    Calls Tryd.prog 5 #[v] w (LwStr w (textF zs)) := by
  obtain ⟨a, cap, rfl, hnc⟩ := h.form
  obtain ⟨n, hn⟩ : ∃ n, n = zs.length := ⟨_, rfl⟩
  have hrd : Hid (ReadF w.heap.size w (.slice a n cap) zs) := hidI (by rw [hn]; exact h)
  rw [← hn] at hl hnc ⊢
  clear h
  obtain ⟨T, hT⟩ : ∃ T, T = textF zs := ⟨_, rfl⟩
  rw [← hT]
  replace hn := hidI hn
  replace hT := hidI hT
  replace hi := hidI hi
  go_enter Tryd.func5, Tryd.ntmps5
  go_wp2
  go_loopg [3, 4] n (fun g s i wr => ∃ (k : Nat) (A : ByteArray), k + g = n ∧ i = .int .i64 k ∧ s = .string A ∧ Hid (A.data.toList = Lib.join ((zs.take k).map pieceF) [32]) ∧ Hid (Below w.heap.size w wr))
  case atStart => exact ⟨0, ⟨#[]⟩, by omega, rfl, rfl, hidI (by rw [List.take_zero]; rfl), hidI (Below.refl _ _)⟩
  case round =>
    obtain ⟨k, A, hk, rfl, rfl, hA, hb⟩ := hrel
    by_cases hlt : k < n
    · have hki : (k : Int) < (n : Int) := by omega
      have hkl : k < zs.length := by have := hn.out; omega
      have hAz : A.size ≤ 2199025352704 := by
        have := jnF_take hi.out k
        rw [← hA.out, ← str_size] at this
        omega
      obtain ⟨b, off, hab, hB, c0, c1⟩ := ReadF.cells (hrd.out.below hb.out) k hkl
      subst hab
      have hin := hi.out.at_ hkl
      have hpc : pieceF (zs.getD k zeroF) = Lib.itoa (zs.getD k zeroF).1 ++ 61 :: Lib.itoa (zs.getD k zeroF).2 := rfl
      have hstep := take_F hkl
      rw [hpc] at hstep
      obtain ⟨f0, hf0⟩ : ∃ z, z = (zs.getD k zeroF).1 := ⟨_, rfl⟩
      obtain ⟨f1, hf1⟩ : ∃ z, z = (zs.getD k zeroF).2 := ⟨_, rfl⟩
      rw [← hf0] at c0 hin hstep
      rw [← hf1] at c1 hin hstep
      have hc0 := fun x => specFmt f0 hin.1.1 hin.1.2 x
      have hc1 := fun x => specFmt f1 hin.2.1 hin.2.2 x
      obtain ⟨F0, hF0⟩ : ∃ F, F = fmtB f0 := ⟨_, rfl⟩
      obtain ⟨F1, hF1⟩ : ∃ F, F = fmtB f1 := ⟨_, rfl⟩
      have hz0 := fmtB_size hin.1
      have hz1 := fmtB_size hin.2
      rw [← hF0] at hz0 hc0
      rw [← hF1] at hz1 hc1
      have ht0 : F0.data.toList = Lib.itoa f0 := by rw [hF0]; exact fmtB_text _
      have ht1 : F1.data.toList = Lib.itoa f1 := by rw [hF1]; exact fmtB_text _
      obtain ⟨wd, hwd⟩ : ∃ z, z = wr.drew := ⟨_, rfl⟩
      have hbd : Below wr.heap.size wr wd := by rw [hwd]; exact below_dn (Below.refl _ _) 1
      have hsr := hb.out.size
      have hltd : b < wd.heap.size := by have := hbd.size; omega
      replace c0 := below_cell c0 hbd (by omega)
      replace c1 := below_cell c1 hbd (by omega)
      clear hpc hin
      replace hf0 := hidI hf0
      replace hf1 := hidI hf1
      replace hF0 := hidI hF0
      replace hF1 := hidI hF1
      replace ht0 := hidI ht0
      replace ht1 := hidI ht1
      replace hstep := hidI hstep
      replace hwd := hidI hwd
      replace hk := hidI hk
      by_cases hk0 : k = 0
      · subst hk0
        have hkm : ¬ (0 : Int) < ((0 : Nat) : Int) := by omega
        have hA0 : A.data.toList = [] := by rw [hA.out, List.take_zero]; rfl
        have hA' : Hid ((A ++ F0 ++ ⟨#[61]⟩ ++ F1).data.toList = Lib.join ((zs.take (0 + 1)).map pieceF) [32]) := hidI (by
          rw [hstep.out, List.take_zero, List.map_nil, List.nil_append, Lib.join_one, ← ht0.out, ← ht1.out]
          simp [hA0])
        have k1 : ¬ 9223372036854775807 < A.size + F0.size := by omega
        have k2 : ¬ 9223372036854775807 < A.size + F0.size + 1 := by omega
        have k3 : ¬ 9223372036854775807 < A.size + F0.size + 1 + F1.size := by omega
        replace hA0 := hidI hA0
        simp only [Nat.zero_mul, Nat.add_zero] at c0 c1
        go_wp2
        refine hideQ (fun _ _ d _ _ h => by cases d <;> exact h) (fun Q' hnorm hpan => ?_)
        refine wp_region_held_drew (S := (fun z => z.cell? ⟨b, off, none⟩ = some (.int .i64 f0) ∧ z.cell? ⟨b, off + 1, none⟩ = some (.int .i64 f1))) (by kernel_rfl) ?_ (fun hHeld => ?_)
        · try dsimp only
          first | ((repeat' apply And.intro) <;> assumption) | (rw [← hwd.out]; ((repeat' apply And.intro) <;> assumption))
        rw [← hwd.out] at hHeld ⊢
        refine take_at 0 15 (v := ?_) rfl (by kernel_rfl) (by kernel_rfl) (by kernel_rfl) (by kernel_rfl) hpan (Or.inl ⟨by rfl, ?_⟩) (by assumption) ?_
        rotate_left
        · intro w hSw; (try dsimp only at hSw); go_simp; with_reducible rfl
        simp only [Act.put, List.setIfInBounds_toArray, List.set_cons_zero, List.set_cons_succ]
        refine take_at 1 16 (v := ?_) rfl (by kernel_rfl) (by kernel_rfl) (by kernel_rfl) (by kernel_rfl) hpan (Or.inl ⟨by rfl, ?_⟩) (by assumption) ?_
        rotate_left
        · intro w hSw; (try dsimp only at hSw); go_simp; with_reducible rfl
        simp only [Act.put, List.setIfInBounds_toArray, List.set_cons_zero, List.set_cons_succ]
        refine take_at 2 17 (v := ?_) rfl (by kernel_rfl) (by kernel_rfl) (by kernel_rfl) (by kernel_rfl) hpan (Or.inl ⟨by rfl, ?_⟩) (by assumption) ?_
        rotate_left
        · intro w hSw; (try dsimp only at hSw); go_simp; with_reducible rfl
        simp only [Act.put, List.setIfInBounds_toArray, List.set_cons_zero, List.set_cons_succ]
        refine take_at 3 18 (v := ?_) rfl (by kernel_rfl) (by kernel_rfl) (by kernel_rfl) (by kernel_rfl) hpan (Or.inl ⟨by rfl, ?_⟩) (by assumption) ?_
        rotate_left
        · intro w hSw; (try dsimp only at hSw); go_simp; with_reducible rfl
        simp only [Act.put, List.setIfInBounds_toArray, List.set_cons_zero, List.set_cons_succ]
        refine take_at 4 19 (v := ?_) rfl (by kernel_rfl) (by kernel_rfl) (by kernel_rfl) (by kernel_rfl) hpan (Or.inl ⟨by rfl, ?_⟩) (by assumption) ?_
        rotate_left
        · intro w hSw; (try dsimp only at hSw); go_simp; with_reducible rfl
        simp only [Act.put, List.setIfInBounds_toArray, List.set_cons_zero, List.set_cons_succ]
        refine take_at 5 20 (v := ?_) rfl (by kernel_rfl) (by kernel_rfl) (by kernel_rfl) (by kernel_rfl) hpan (Or.inl ⟨by rfl, ?_⟩) (by assumption) ?_
        rotate_left
        · intro w hSw; (try dsimp only at hSw); go_simp; with_reducible rfl
        simp only [Act.put, List.setIfInBounds_toArray, List.set_cons_zero, List.set_cons_succ]
        refine take_at 9 24 (v := ?_) rfl (by kernel_rfl) (by kernel_rfl) (by kernel_rfl) (by kernel_rfl) hpan (Or.inl ⟨by rfl, ?_⟩) (by assumption) ?_
        rotate_left
        · intro w hSw; (try dsimp only at hSw); go_simp; with_reducible rfl
        simp only [Act.put, List.setIfInBounds_toArray, List.set_cons_zero, List.set_cons_succ]
        refine take_at 10 25 (v := ?_) rfl (by kernel_rfl) (by kernel_rfl) (by kernel_rfl) (by kernel_rfl) hpan (Or.inl ⟨by rfl, ?_⟩) (by assumption) ?_
        rotate_left
        · intro w hSw; (try dsimp only at hSw); go_simp; with_reducible rfl
        simp only [Act.put, List.setIfInBounds_toArray, List.set_cons_zero, List.set_cons_succ]
        refine take_at 11 26 (v := ?_) rfl (by kernel_rfl) (by kernel_rfl) (by kernel_rfl) (by kernel_rfl) hpan (Or.inl ⟨by rfl, ?_⟩) (by assumption) ?_
        rotate_left
        · intro w hSw; (try dsimp only at hSw); go_simp; with_reducible rfl
        simp only [Act.put, List.setIfInBounds_toArray, List.set_cons_zero, List.set_cons_succ]
        refine take_at 12 27 (v := ?_) rfl (by kernel_rfl) (by kernel_rfl) (by kernel_rfl) (by kernel_rfl) hpan (Or.inl ⟨by rfl, ?_⟩) (by assumption) ?_
        rotate_left
        · intro w hSw; (try dsimp only at hSw); go_simp; with_reducible rfl
        simp only [Act.put, List.setIfInBounds_toArray, List.set_cons_zero, List.set_cons_succ]
        refine take_at 13 28 (v := ?_) rfl (by kernel_rfl) (by kernel_rfl) (by kernel_rfl) (by kernel_rfl) hpan (Or.inl ⟨by rfl, ?_⟩) (by assumption) ?_
        rotate_left
        · intro w hSw; (try dsimp only at hSw); go_simp; with_reducible rfl
        simp only [Act.put, List.setIfInBounds_toArray, List.set_cons_zero, List.set_cons_succ]
        refine wpAnyH_ready (rs := [6]) (by kernel_rfl) (by simp) ?_
        refine AllReadyH.cons rfl (fun K hK => ?_) AllReadyH.nil
        rw [if_pos (by rfl)]
        go_simp
        refine (hc0 wd).mono ?_
        rintro e v3 ⟨rfl, hb3⟩
        have y0 := below_cell c0 hb3 hltd
        have y1 := below_cell c1 hb3 hltd
        have hs3 := hb3.size
        refine hK.out _ _ ?_ (fun hHeld => ?_)
        · try dsimp only
          first | ((repeat' apply And.intro) <;> assumption) | (rw [← hwd.out]; ((repeat' apply And.intro) <;> assumption))
        clear hK
        try simp only [Act.put, List.setIfInBounds_toArray, List.set_cons_zero, List.set_cons_succ]
        refine take_at 7 22 (v := ?_) rfl (by kernel_rfl) (by kernel_rfl) (by kernel_rfl) (by kernel_rfl) hpan (Or.inl ⟨by rfl, ?_⟩) (by assumption) ?_
        rotate_left
        · intro w hSw; (try dsimp only at hSw); go_simp; with_reducible rfl
        simp only [Act.put, List.setIfInBounds_toArray, List.set_cons_zero, List.set_cons_succ]
        refine take_at 8 23 (v := ?_) rfl (by kernel_rfl) (by kernel_rfl) (by kernel_rfl) (by kernel_rfl) hpan (Or.inl ⟨by rfl, ?_⟩) (by assumption) ?_
        rotate_left
        · intro w hSw; (try dsimp only at hSw); go_simp; with_reducible rfl
        simp only [Act.put, List.setIfInBounds_toArray, List.set_cons_zero, List.set_cons_succ]
        refine wpAnyH_ready (rs := [14]) (by kernel_rfl) (by simp) ?_
        refine AllReadyH.cons rfl (fun K hK => ?_) AllReadyH.nil
        rw [if_pos (by rfl)]
        go_simp
        refine (hc1 v3).mono ?_
        rintro e v4 ⟨rfl, hb4⟩
        have z0 := below_cell y0 hb4 (by omega)
        have z1 := below_cell y1 hb4 (by omega)
        refine hK.out _ _ ?_ (fun hHeld => ?_)
        · try dsimp only
          first | ((repeat' apply And.intro) <;> assumption) | (rw [← hwd.out]; ((repeat' apply And.intro) <;> assumption))
        clear hK
        try simp only [Act.put, List.setIfInBounds_toArray, List.set_cons_zero, List.set_cons_succ]
        refine take_at 15 30 (v := ?_) rfl (by kernel_rfl) (by kernel_rfl) (by kernel_rfl) (by kernel_rfl) hpan (Or.inl ⟨by rfl, ?_⟩) (by assumption) ?_
        rotate_left
        · intro w hSw; (try dsimp only at hSw); go_simp; with_reducible rfl
        simp only [Act.put, List.setIfInBounds_toArray, List.set_cons_zero, List.set_cons_succ]
        refine take_at 16 3 (v := ?_) rfl (by kernel_rfl) (by kernel_rfl) (by kernel_rfl) (by kernel_rfl) hpan (Or.inl ⟨by rfl, ?_⟩) (by assumption) ?_
        rotate_left
        · intro w hSw; (try dsimp only at hSw); go_simp; with_reducible rfl
        simp only [Act.put, List.setIfInBounds_toArray, List.set_cons_zero, List.set_cons_succ]
        refine wpAnyH_done (by kernel_rfl) ?_ _
        refine hnorm _ _ ?_
        clear hnorm hpan
        repeat clear hHeld
        try simp only [Exit.then]
        have hbz := hidI (hb.out.trans ((hbd.trans ((hb3.trans (hb4.mono hb3.size)).mono hbd.size)).mono hsr))
        clear hb3 hb4 c0 c1 y0 y1 z0 z1 hs3
        go_wp2
        go_roundg (n - (0 + 1))
        case rel => exact ⟨0 + 1, _, by have := hk.out; omega, by go_num, rfl, hA', hbz⟩
        case measure => have := hk.out; omega
      · have hkm : (0 : Int) < (k : Int) := by omega
        have hA' : Hid ((A ++ ⟨#[32]⟩ ++ F0 ++ ⟨#[61]⟩ ++ F1).data.toList = Lib.join ((zs.take (k + 1)).map pieceF) [32]) := hidI (by
          rw [hstep.out, jnF_snoc (by
            intro e
            have e2 := congrArg List.length e
            rw [List.length_map, List.length_take] at e2
            have e3 : min k zs.length = 0 := e2
            omega), ← hA.out, ← ht0.out, ← ht1.out]
          simp)
        have k0 : ¬ 9223372036854775807 < A.size + 1 := by omega
        have k1 : ¬ 9223372036854775807 < A.size + 1 + F0.size := by omega
        have k2 : ¬ 9223372036854775807 < A.size + 1 + F0.size + 1 := by omega
        have k3 : ¬ 9223372036854775807 < A.size + 1 + F0.size + 1 + F1.size := by omega
        replace hk0 := hidI hk0
        go_wp2
        refine hideQ (fun _ _ d _ _ h => by cases d <;> exact h) (fun Q' hnorm hpan => ?_)
        refine wp_region_held_drew (S := (fun z => z.cell? ⟨b, off + k * 2, none⟩ = some (.int .i64 f0) ∧ z.cell? ⟨b, off + k * 2 + 1, none⟩ = some (.int .i64 f1))) (by kernel_rfl) ?_ (fun hHeld => ?_)
        · try dsimp only
          first | ((repeat' apply And.intro) <;> assumption) | (rw [← hwd.out]; ((repeat' apply And.intro) <;> assumption))
        rw [← hwd.out] at hHeld ⊢
        refine take_at 0 15 (v := ?_) rfl (by kernel_rfl) (by kernel_rfl) (by kernel_rfl) (by kernel_rfl) hpan (Or.inl ⟨by rfl, ?_⟩) (by assumption) ?_
        rotate_left
        · intro w hSw; (try dsimp only at hSw); go_simp; with_reducible rfl
        simp only [Act.put, List.setIfInBounds_toArray, List.set_cons_zero, List.set_cons_succ]
        refine take_at 1 16 (v := ?_) rfl (by kernel_rfl) (by kernel_rfl) (by kernel_rfl) (by kernel_rfl) hpan (Or.inl ⟨by rfl, ?_⟩) (by assumption) ?_
        rotate_left
        · intro w hSw; (try dsimp only at hSw); go_simp; with_reducible rfl
        simp only [Act.put, List.setIfInBounds_toArray, List.set_cons_zero, List.set_cons_succ]
        refine take_at 2 17 (v := ?_) rfl (by kernel_rfl) (by kernel_rfl) (by kernel_rfl) (by kernel_rfl) hpan (Or.inl ⟨by rfl, ?_⟩) (by assumption) ?_
        rotate_left
        · intro w hSw; (try dsimp only at hSw); go_simp; with_reducible rfl
        simp only [Act.put, List.setIfInBounds_toArray, List.set_cons_zero, List.set_cons_succ]
        refine take_at 3 18 (v := ?_) rfl (by kernel_rfl) (by kernel_rfl) (by kernel_rfl) (by kernel_rfl) hpan (Or.inl ⟨by rfl, ?_⟩) (by assumption) ?_
        rotate_left
        · intro w hSw; (try dsimp only at hSw); go_simp; with_reducible rfl
        simp only [Act.put, List.setIfInBounds_toArray, List.set_cons_zero, List.set_cons_succ]
        refine take_at 4 19 (v := ?_) rfl (by kernel_rfl) (by kernel_rfl) (by kernel_rfl) (by kernel_rfl) hpan (Or.inl ⟨by rfl, ?_⟩) (by assumption) ?_
        rotate_left
        · intro w hSw; (try dsimp only at hSw); go_simp; with_reducible rfl
        simp only [Act.put, List.setIfInBounds_toArray, List.set_cons_zero, List.set_cons_succ]
        refine take_at 5 20 (v := ?_) rfl (by kernel_rfl) (by kernel_rfl) (by kernel_rfl) (by kernel_rfl) hpan (Or.inl ⟨by rfl, ?_⟩) (by assumption) ?_
        rotate_left
        · intro w hSw; (try dsimp only at hSw); go_simp; with_reducible rfl
        simp only [Act.put, List.setIfInBounds_toArray, List.set_cons_zero, List.set_cons_succ]
        refine take_at 9 24 (v := ?_) rfl (by kernel_rfl) (by kernel_rfl) (by kernel_rfl) (by kernel_rfl) hpan (Or.inl ⟨by rfl, ?_⟩) (by assumption) ?_
        rotate_left
        · intro w hSw; (try dsimp only at hSw); go_simp; with_reducible rfl
        simp only [Act.put, List.setIfInBounds_toArray, List.set_cons_zero, List.set_cons_succ]
        refine take_at 10 25 (v := ?_) rfl (by kernel_rfl) (by kernel_rfl) (by kernel_rfl) (by kernel_rfl) hpan (Or.inl ⟨by rfl, ?_⟩) (by assumption) ?_
        rotate_left
        · intro w hSw; (try dsimp only at hSw); go_simp; with_reducible rfl
        simp only [Act.put, List.setIfInBounds_toArray, List.set_cons_zero, List.set_cons_succ]
        refine take_at 11 26 (v := ?_) rfl (by kernel_rfl) (by kernel_rfl) (by kernel_rfl) (by kernel_rfl) hpan (Or.inl ⟨by rfl, ?_⟩) (by assumption) ?_
        rotate_left
        · intro w hSw; (try dsimp only at hSw); go_simp; with_reducible rfl
        simp only [Act.put, List.setIfInBounds_toArray, List.set_cons_zero, List.set_cons_succ]
        refine take_at 12 27 (v := ?_) rfl (by kernel_rfl) (by kernel_rfl) (by kernel_rfl) (by kernel_rfl) hpan (Or.inl ⟨by rfl, ?_⟩) (by assumption) ?_
        rotate_left
        · intro w hSw; (try dsimp only at hSw); go_simp; with_reducible rfl
        simp only [Act.put, List.setIfInBounds_toArray, List.set_cons_zero, List.set_cons_succ]
        refine take_at 13 28 (v := ?_) rfl (by kernel_rfl) (by kernel_rfl) (by kernel_rfl) (by kernel_rfl) hpan (Or.inl ⟨by rfl, ?_⟩) (by assumption) ?_
        rotate_left
        · intro w hSw; (try dsimp only at hSw); go_simp; with_reducible rfl
        simp only [Act.put, List.setIfInBounds_toArray, List.set_cons_zero, List.set_cons_succ]
        refine wpAnyH_ready (rs := [6]) (by kernel_rfl) (by simp) ?_
        refine AllReadyH.cons rfl (fun K hK => ?_) AllReadyH.nil
        rw [if_pos (by rfl)]
        go_simp
        refine (hc0 wd).mono ?_
        rintro e v3 ⟨rfl, hb3⟩
        have y0 := below_cell c0 hb3 hltd
        have y1 := below_cell c1 hb3 hltd
        have hs3 := hb3.size
        refine hK.out _ _ ?_ (fun hHeld => ?_)
        · try dsimp only
          first | ((repeat' apply And.intro) <;> assumption) | (rw [← hwd.out]; ((repeat' apply And.intro) <;> assumption))
        clear hK
        try simp only [Act.put, List.setIfInBounds_toArray, List.set_cons_zero, List.set_cons_succ]
        refine take_at 7 22 (v := ?_) rfl (by kernel_rfl) (by kernel_rfl) (by kernel_rfl) (by kernel_rfl) hpan (Or.inl ⟨by rfl, ?_⟩) (by assumption) ?_
        rotate_left
        · intro w hSw; (try dsimp only at hSw); go_simp; with_reducible rfl
        simp only [Act.put, List.setIfInBounds_toArray, List.set_cons_zero, List.set_cons_succ]
        refine take_at 8 23 (v := ?_) rfl (by kernel_rfl) (by kernel_rfl) (by kernel_rfl) (by kernel_rfl) hpan (Or.inl ⟨by rfl, ?_⟩) (by assumption) ?_
        rotate_left
        · intro w hSw; (try dsimp only at hSw); go_simp; with_reducible rfl
        simp only [Act.put, List.setIfInBounds_toArray, List.set_cons_zero, List.set_cons_succ]
        refine wpAnyH_ready (rs := [14]) (by kernel_rfl) (by simp) ?_
        refine AllReadyH.cons rfl (fun K hK => ?_) AllReadyH.nil
        rw [if_pos (by rfl)]
        go_simp
        refine (hc1 v3).mono ?_
        rintro e v4 ⟨rfl, hb4⟩
        have z0 := below_cell y0 hb4 (by omega)
        have z1 := below_cell y1 hb4 (by omega)
        refine hK.out _ _ ?_ (fun hHeld => ?_)
        · try dsimp only
          first | ((repeat' apply And.intro) <;> assumption) | (rw [← hwd.out]; ((repeat' apply And.intro) <;> assumption))
        clear hK
        try simp only [Act.put, List.setIfInBounds_toArray, List.set_cons_zero, List.set_cons_succ]
        refine take_at 15 30 (v := ?_) rfl (by kernel_rfl) (by kernel_rfl) (by kernel_rfl) (by kernel_rfl) hpan (Or.inl ⟨by rfl, ?_⟩) (by assumption) ?_
        rotate_left
        · intro w hSw; (try dsimp only at hSw); go_simp; with_reducible rfl
        simp only [Act.put, List.setIfInBounds_toArray, List.set_cons_zero, List.set_cons_succ]
        refine take_at 16 3 (v := ?_) rfl (by kernel_rfl) (by kernel_rfl) (by kernel_rfl) (by kernel_rfl) hpan (Or.inl ⟨by rfl, ?_⟩) (by assumption) ?_
        rotate_left
        · intro w hSw; (try dsimp only at hSw); go_simp; with_reducible rfl
        simp only [Act.put, List.setIfInBounds_toArray, List.set_cons_zero, List.set_cons_succ]
        refine wpAnyH_done (by kernel_rfl) ?_ _
        refine hnorm _ _ ?_
        clear hnorm hpan
        repeat clear hHeld
        try simp only [Exit.then]
        have hbz := hidI (hb.out.trans ((hbd.trans ((hb3.trans (hb4.mono hb3.size)).mono hbd.size)).mono hsr))
        clear hb3 hb4 c0 c1 y0 y1 z0 z1 hs3
        go_wp2
        go_roundg (n - (k + 1))
        case rel => exact ⟨k + 1, _, by have := hk.out; omega, by go_num, rfl, hA', hbz⟩
        case measure => have := hk.out; omega
    · obtain rfl : k = n := by omega
      have hki : ¬ (k : Int) < (k : Int) := by omega
      have hfull : zs.take k = zs := List.take_of_length_le (by rw [← hn.out]; omega)
      rw [hfull] at hA
      replace hfull := hidI hfull
      replace hk := hidI hk
      by_cases h0 : zs = []
      · have hA0 : A = ⟨#[]⟩ := by
          apply ByteArray.ext
          apply Array.toList_inj.1
          rw [hA.out, h0]
          rfl
        subst hA0
        have hr : LwStr w T (.returned (.string ⟨#[110, 111, 110, 101]⟩)) wr := ⟨str_is (by rw [hT.out, textF_list, fmtFs, if_pos h0]), hb.out⟩
        replace hr := hidI hr
        replace h0 := hidI h0
        go_wp2
        go_ret
        exact hr.out
      · have hAi : A.toList.isEmpty = false := by
          rw [show A.toList = A.data.toList by first | exact Lib.toList_data A | exact (Lib.toList_data A).symm | simp [Lib.toList_data], hA.out, List.isEmpty_eq_false_iff]
          exact jnF_ne h0
        have hr : LwStr w T (.returned (.string A)) wr := ⟨str_is (by rw [hT.out, textF_list, fmtFs, if_neg h0]; exact hA.out), hb.out⟩
        replace hr := hidI hr
        replace h0 := hidI h0
        go_wp2
        go_ret
        exact hr.out
end Go.Proofs.YtdeofaimgldklaaDoor
