/- Numbers of a basis, their text: mathematics, and FormatIndices of the model. -/
import Derived.Test.YtpjlamnjiilgbaaDoorFmtI
import Derived.Test.YtpjlamnjiilgbaaDoorLI
import Derived.Test.YtpjlamnjiilgbaaDoorMX
import Derived.Lib.Join
import Derived.Lib.ItoaLen
import Derived.Deep.LoopGhost
import Derived.Deep.RegionHeld3
namespace Go.Proofs.YtpjlamnjiilgbaaDoor
open Go.RowKit
set_option linter.unusedVariables false
set_option linter.unusedSimpArgs false

def LwStr (w : World) (s : ByteArray) (e : Ending) (w' : World) : Prop := e = .returned (.string s) ∧ Below w.heap.size w w'
theorem str_is {a T : ByteArray} (h : a.data.toList = T.data.toList) : Ending.returned (.string a) = .returned (.string T) := by
  have : a = T := by apply ByteArray.ext; exact Array.toList_inj.1 h
  rw [this]
theorem str_size (a : ByteArray) : a.size = a.data.toList.length := by rw [Array.length_toList]; rfl
theorem fmtB_text (n : Int) : (fmtB n).data.toList = Lib.itoa n := by simp [fmtB]
def fmtIs (zs : List Int) : List UInt8 := if zs = [] then [110, 111, 110, 101] else Lib.join (zs.map Lib.itoa) [32]
def textIs (zs : List Int) : ByteArray := ⟨(fmtIs zs).toArray⟩
theorem textIs_list (zs : List Int) : (textIs zs).data.toList = fmtIs zs := by simp [textIs]
theorem itoa_ne (n : Int) : Lib.itoa n ≠ [] := by
  unfold Lib.itoa
  split
  · simp
  · rw [Lib.decDigits]
    split <;> simp
theorem jnI_snoc {xs : List (List UInt8)} {y : List UInt8} (h : xs ≠ []) : Lib.join (xs ++ [y]) [32] = Lib.join xs [32] ++ [32] ++ y := by
  obtain ⟨x, r, rfl⟩ := List.exists_cons_of_ne_nil h
  rw [List.cons_append, Lib.join_cons, Lib.join_cons]
  simp [Lib.joinTail]
theorem jnI_ne {zs : List Int} (h : zs ≠ []) : Lib.join (zs.map Lib.itoa) [32] ≠ [] := by
  obtain ⟨x, r, rfl⟩ := List.exists_cons_of_ne_nil h
  rw [List.map_cons, Lib.join_cons]
  intro e
  exact itoa_ne x (List.append_eq_nil_iff.1 e).1
theorem take_Is {zs : List Int} {k : Nat} (h : k < zs.length) : (zs.take (k + 1)).map Lib.itoa = (zs.take k).map Lib.itoa ++ [Lib.itoa (zs.getD k 0)] := by
  rw [List.take_add_one, List.getElem?_eq_getElem h, List.map_append, List.getD_eq_getElem?_getD, List.getElem?_eq_getElem h]
  rfl
theorem itoa_len {n : Int} (h : -9223372036854775808 ≤ n ∧ n ≤ 9223372036854775807) : (Lib.itoa n).length ≤ 21 := Lib.itoa_length_le n h.1 h.2
theorem lensI_le : ∀ zs : List Int, InR zs → Lib.lens (zs.map Lib.itoa) ≤ zs.length * 21 := by
  intro zs
  induction zs with
  | nil => intro _; simp [Lib.lens]
  | cons z zs ih =>
    intro h
    have h1 := ih h.tail
    have h2 := itoa_len h.head
    unfold Lib.lens at h1 ⊢
    simp only [List.map_cons, List.sum_cons, List.length_cons] at h1 ⊢
    omega
theorem jnI_len {zs : List Int} (h : InR zs) : (Lib.join (zs.map Lib.itoa) [32]).length ≤ zs.length * 22 := by
  have h1 := lensI_le zs h
  cases zs with
  | nil => simp [Lib.join_nil]
  | cons z zs =>
    rw [List.map_cons] at h1 ⊢
    rw [Lib.join_length]
    simp only [List.length_map, List.length_cons, List.length_nil] at h1 ⊢
    omega
theorem jnI_take {zs : List Int} (h : InR zs) (k : Nat) : (Lib.join ((zs.take k).map Lib.itoa) [32]).length ≤ k * 22 := by
  have h1 := jnI_len (h.take k)
  rw [List.length_take] at h1
  exact Nat.le_trans h1 (Nat.mul_le_mul_right _ (Nat.min_le_left _ _))
set_option maxRecDepth 100000 in
set_option maxHeartbeats 6400000 in
theorem specFmtIs (w : World) (v : Value) (zs : List Int) (h : ReadI w.heap.size w v zs) (hi : InR zs) (hl : zs.length ≤ 1048576) :
    Calls Tryd.prog 4 #[v] w (LwStr w (textIs zs)) := by
  have h' := h
  obtain ⟨_, a, cap, rfl, _, _⟩ := h'
  obtain ⟨n, hn⟩ : ∃ n, n = zs.length := ⟨_, rfl⟩
  have hrd : Hid (ReadI w.heap.size w (.slice a n cap) zs) := hidI (by rw [hn]; exact h)
  rw [← hn] at hl ⊢
  clear h
  obtain ⟨T, hT⟩ : ∃ T, T = textIs zs := ⟨_, rfl⟩
  rw [← hT]
  replace hn := hidI hn
  replace hT := hidI hT
  replace hi := hidI hi
  go_enter Tryd.func4, Tryd.ntmps4
  go_wp2
  go_loopg [3, 4] n (fun g s i wr => ∃ (k : Nat) (A : ByteArray), k + g = n ∧ i = .int .i64 k ∧ s = .string A ∧ Hid (A.data.toList = Lib.join ((zs.take k).map Lib.itoa) [32]) ∧ Hid (Below w.heap.size w wr))
  case atStart => exact ⟨0, ⟨#[]⟩, by omega, rfl, rfl, hidI (by rw [List.take_zero]; rfl), hidI (Below.refl _ _)⟩
  case round =>
    obtain ⟨k, A, hk, rfl, rfl, hA, hb⟩ := hrel
    by_cases hlt : k < n
    · have hki : (k : Int) < (n : Int) := by omega
      have hkl : k < zs.length := by have := hn.out; omega
      have hAz : A.size ≤ 23068672 := by
        have := jnI_take hi.out k
        rw [← hA.out, ← str_size] at this
        omega
      obtain ⟨b, off, hab, hB, c0⟩ := (hrd.out.below hb.out).at2 k hkl
      subst hab
      have hin := hi.out.getD k hkl
      have hstep := take_Is hkl
      obtain ⟨f0, hf0⟩ : ∃ z, z = zs.getD k 0 := ⟨_, rfl⟩
      rw [← hf0] at c0 hin hstep
      have hc0 := fun x => specFmt f0 hin.1 hin.2 x
      obtain ⟨F0, hF0⟩ : ∃ F, F = fmtB f0 := ⟨_, rfl⟩
      have ht0 : F0.data.toList = Lib.itoa f0 := by rw [hF0]; exact fmtB_text _
      have hz0 : F0.size ≤ 21 := by rw [str_size, ht0]; exact itoa_len hin
      rw [← hF0] at hc0
      clear hin
      replace hf0 := hidI hf0
      replace hF0 := hidI hF0
      replace ht0 := hidI ht0
      replace hstep := hidI hstep
      replace hk := hidI hk
      by_cases hk0 : k = 0
      · subst hk0
        have hkm : ¬ (0 : Int) < ((0 : Nat) : Int) := by omega
        have hA0 : A.data.toList = [] := by rw [hA.out, List.take_zero]; rfl
        have hA' : Hid ((A ++ F0).data.toList = Lib.join ((zs.take (0 + 1)).map Lib.itoa) [32]) := hidI (by
          rw [hstep.out, List.take_zero, List.map_nil, List.nil_append, Lib.join_one, ← ht0.out]
          simp [hA0])
        have k1 : ¬ 9223372036854775807 < A.size + F0.size := by omega
        replace hA0 := hidI hA0
        simp only [Nat.add_zero] at c0
        go_wp2_with fail
        refine (hc0 wr).mono ?_
        rintro e v3 ⟨rfl, hb3⟩
        have hbz := hidI (hb.out.trans (hb3.mono hb.out.size))
        clear hb3 c0 hc0
        go_wp2
        go_roundg (n - (0 + 1))
        case rel => exact ⟨0 + 1, _, by have := hk.out; omega, by go_num, rfl, hA', hbz⟩
        case measure => have := hk.out; omega
      · have hkm : (0 : Int) < (k : Int) := by omega
        have hA' : Hid ((A ++ ⟨#[32]⟩ ++ F0).data.toList = Lib.join ((zs.take (k + 1)).map Lib.itoa) [32]) := hidI (by
          rw [hstep.out, jnI_snoc (by
            intro e
            have e2 := congrArg List.length e
            rw [List.length_map, List.length_take] at e2
            have e3 : min k zs.length = 0 := e2
            omega), ← hA.out, ← ht0.out]
          simp)
        have k0 : ¬ 9223372036854775807 < A.size + 1 := by omega
        have k1 : ¬ 9223372036854775807 < A.size + 1 + F0.size := by omega
        replace hk0 := hidI hk0
        go_wp2_with fail
        refine (hc0 wr).mono ?_
        rintro e v3 ⟨rfl, hb3⟩
        have hbz := hidI (hb.out.trans (hb3.mono hb.out.size))
        clear hb3 c0 hc0
        go_wp2
        go_roundg (n - (k + 1))
        case rel => exact ⟨k + 1, _, by have := hk.out; omega, by go_num, rfl, hA', hbz⟩
        case measure => have := hk.out; omega
    · obtain rfl : k = n := by omega
      have hki : ¬ (k : Int) < (k : Int) := by omega
      have hfull : zs.take k = zs := List.take_of_length_le (by rw [← hn.out]; omega)
      rw [hfull] at hA
      replace hfull := hidI hfull
      replace hk := hidI hk
      by_cases h0 : zs = []
      · have hA0 : A = ⟨#[]⟩ := by
          apply ByteArray.ext
          apply Array.toList_inj.1
          rw [hA.out, h0]
          rfl
        subst hA0
        have hr : LwStr w T (.returned (.string ⟨#[110, 111, 110, 101]⟩)) wr := ⟨str_is (by rw [hT.out, textIs_list, fmtIs, if_pos h0]), hb.out⟩
        replace hr := hidI hr
        replace h0 := hidI h0
        go_wp2
        go_ret
        exact hr.out
      · have hAi : A.toList.isEmpty = false := by
          rw [show A.toList = A.data.toList by first | exact Lib.toList_data A | exact (Lib.toList_data A).symm | simp [Lib.toList_data], hA.out, List.isEmpty_eq_false_iff]
          exact jnI_ne h0
        have hr : LwStr w T (.returned (.string A)) wr := ⟨str_is (by rw [hT.out, textIs_list, fmtIs, if_neg h0]; exact hA.out), hb.out⟩
        replace hr := hidI hr
        replace h0 := hidI h0
        go_wp2
        go_ret
        exact hr.out
end Go.Proofs.YtpjlamnjiilgbaaDoor
