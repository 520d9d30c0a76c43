/- Drawn texts: l1Spoil. -/
import Derived.Test.YthjlemcnddkjgaaDT
import Derived.Deep.RegionHeld3
namespace Go.Proofs.Ythjlemcnddkjgaa
open Go.RowKit
set_option linter.unusedVariables false

theorem conv_wrap (w : World) (y : Int) : (convert 22 9 (.slice (some ⟨w.heap.size, 0, none⟩) 1 1)).run Try.prog (w.alloc (.cells #[.int .u8 (y % 256)] 5)) = .ok (.string ⟨#[UInt8.ofNat (y % 256).toNat]⟩) (w.alloc (.cells #[.int .u8 (y % 256)] 5)) :=
  conv_one w (y % 256) (UInt8.ofNat (y % 256).toNat) (by rw [UInt8.toNat_ofNat']; omega)
theorem conv_wrap2 (w : World) (y : Int) : (convert 22 9 (.slice (some ⟨w.heap.size, 0, none⟩) 1 1)).run Try.prog (w.alloc (.cells #[.int .u8 (IntKind.u8.wrap y)] 5)) = .ok (.string ⟨#[UInt8.ofNat (y % 256).toNat]⟩) (w.alloc (.cells #[.int .u8 (IntKind.u8.wrap y)] 5)) :=
  conv_one w (IntKind.u8.wrap y) (UInt8.ofNat (y % 256).toNat) (by rw [IntKind.wrap_u8, UInt8.toNat_ofNat']; omega)
theorem Dr.drewN {B g : Nat} {a : Option Addr} {len cap : Nat} {w : World} (h : Dr B g a len cap w) (n : Nat) : Dr B g a len cap (w.drewN n) := ⟨h.1, h.2⟩
theorem size3 (P : ByteArray) (c : UInt8) (Q : ByteArray) {s : ByteArray} {k j m : Nat} (hP : P = s.extract 0 k) (hQ : Q = s.extract j s.size) (hkj : k ≤ j) (hk : k < s.size) (hs : s.size ≤ m) : (P ++ ⟨#[c]⟩ ++ Q).size ≤ m + 3 := by
  have hC : (ByteArray.mk #[c]).size = 1 := rfl
  rw [ByteArray.size_append, ByteArray.size_append, hP, hQ, ByteArray.size_extract, ByteArray.size_extract, hC]
  omega
theorem size2 (P Q : ByteArray) {s : ByteArray} {k j m : Nat} (hP : P = s.extract 0 k) (hQ : Q = s.extract j s.size) (hkj : k ≤ j) (hk : k < s.size) (hs : s.size ≤ m) : (P ++ Q).size ≤ m + 3 := by
  rw [ByteArray.size_append, hP, hQ, ByteArray.size_extract, ByteArray.size_extract]
  omega
set_option maxHeartbeats 1600000 in
theorem spoil_in {B g : Nat} {a : Option Addr} {len cap : Nat} {w : World} (h : Dr B g a len cap w) (s : ByteArray) (m : Nat) (hs : s.size ≤ m) (hm : m ≤ 1000) :
    Calls Try.prog 71 #[.pointer (some ⟨g, 0, none⟩), .string s] w (TextIn (m + 3) B g a len cap w) := by
  by_cases h0 : s.size = 0
  · have hcall := text_in h 3 3 rfl (by omega)
    replace h := hidI h
    go_enter Try.func71, Try.ntmps71
    go_wp2_with fail
    refine hcall.mono ?_
    rintro e w1 ⟨S, hS, rfl, hg, hd⟩
    have hr : TextIn (m + 3) B g a len cap w (.returned (.string S)) w1 := ⟨S, by omega, rfl, hg, hd⟩
    replace hr := hidI hr
    clear hS hg hd hcall
    go_wp2
    go_ret
    exact hr.out
  · have h0f : ((s.size : Int) == 0) = false := by rw [beq_eq_false_iff_ne]; omega
    have hcall := below_in h (s.size : Int) s.size rfl (by omega) (by omega)
    replace h := hidI h
    replace h0 := hidI h0
    go_enter Try.func71, Try.ntmps71
    go_wp2_with fail
    refine hcall.mono ?_
    rintro e w1 ⟨k, ⟨hk0, hk1⟩, rfl, hg1, hd1⟩
    obtain ⟨k, rfl⟩ := Int.eq_ofNat_of_zero_le hk0
    have hcall2 := below_in hd1 4 4 rfl (by omega) (by omega)
    replace hg1 := hidI hg1
    replace hd1 := hidI hd1
    clear hcall
    go_wp2_with fail
    refine hcall2.mono ?_
    rintro e w2 ⟨d, ⟨hdd0, hdd3⟩, rfl, hg2', hd2⟩
    have hg2 := hidI (grown_trans hg1.out hg2')
    replace hd2 := hidI hd2
    clear hcall2 hg1 hd1 hg2'
    have hkn : k < s.size := by omega
    by_cases e0 : d = 0
    · subst e0
      go_wp2
      go_quiet (fail)
      go_wp2
      go_ret
      exact ⟨_, size2 _ _ rfl rfl (Nat.le_succ k) hkn hs, rfl, grown_trans hg2.out (grown_drewN _ _ _), hd2.out.drewN _⟩
    · have f0 : (d == 0) = false := by rw [beq_eq_false_iff_ne]; exact e0
      by_cases e1 : d = 1
      · subst e1
        have hd2' : Dr B g a len cap w2.drew := ⟨hd2.out.1, hd2.out.2⟩
        have hbyte := hidI (byte_in hd2')
        replace hd2' := hidI hd2'
        go_wp2
        go_region_with (go_at_call 79; refine hbyte.out.mono ?_; rintro e w3 ⟨x, hx, rfl, hg3, hd3⟩; have hcv := conv_wrap w3 x; have hcv2 := conv_wrap2 w3 x; replace hx := hidI hx; replace hg3 := hidI hg3; replace hd3 := hidI hd3)
        all_goals
          go_wp2
          go_ret
          exact ⟨_, size3 _ _ _ rfl rfl (Nat.le_refl k) hkn hs, rfl, grown_trans hg2.out (grown_trans (grown_drewN w2 1 _) (grown_trans hg3.out (World.grownBy_alloc _ _ _))), hd3.out.alloc _⟩
      · have f1 : (d == 1) = false := by rw [beq_eq_false_iff_ne]; exact e1
        by_cases e2 : d = 2
        · subst e2
          go_wp2
          go_ret
          exact ⟨_, by simp; omega, rfl, hg2.out, hd2.out⟩
        · have f2 : (d == 2) = false := by rw [beq_eq_false_iff_ne]; exact e2
          have hd2' : Dr B g a len cap w2.drew := ⟨hd2.out.1, hd2.out.2⟩
          have hbel := hidI (below_in hd2' 255 255 rfl (by omega) (by omega))
          replace hd2' := hidI hd2'
          replace e0 := hidI e0
          replace e1 := hidI e1
          replace e2 := hidI e2
          have hwr : IntKind.i64.wrap ((k : Int) + 1) = (k : Int) + 1 := IntWalk.i64_in _ (by omega)
          have hwr2 : (0 : Int) ≤ (k : Int) + 1 := by omega
          have hwr3 : ((k : Int) + 1).toNat = k + 1 := by omega
          have hwr4 : (k : Int) + 1 ≤ (s.size : Int) := by omega
          go_wp2
          go_region_with (go_at_call 59; refine hbel.out.mono ?_; rintro e w3 ⟨x, hx, rfl, hg3, hd3⟩; have hcv := fun y => conv_wrap w3 y; have hcv2 := fun y => conv_wrap2 w3 y; replace hx := hidI hx; replace hg3 := hidI hg3; replace hd3 := hidI hd3)
          all_goals
            go_wp2
            go_ret
            exact ⟨_, size3 _ _ _ rfl rfl (Nat.le_succ k) hkn hs, rfl, grown_trans hg2.out (grown_trans (grown_drewN w2 1 _) (grown_trans hg3.out (World.grownBy_alloc _ _ _))), hd3.out.alloc _⟩
end Go.Proofs.Ythjlemcnddkjgaa
