/- DecodeVarint, spec and impl. -/
import Derived.Test.YtdacfnoemjleiaaDoorEncV
import Derived.Deep.RegionWith
namespace Go.Proofs.YtdacfnoemjleiaaDoor
open Go.RowKit
set_option linter.unusedVariables false

set_option maxHeartbeats 800000 in
set_option maxRecDepth 100000 in
theorem implDecV_long (s : ByteArray) (w : World) (hs : s.size ≤ 1048576) (h7 : 7 < (s.size : Int)) :
    Calls Tryd.prog 10 #[.string s] w fun e w' => e = .returned (.tuple #[.int .i64 (decV s.data.toList).1, .int .i64 (decV s.data.toList).2]) ∧ Below w.heap.size w w' := by
  obtain ⟨L, hL⟩ : ∃ L, L = s.data.toList := ⟨_, rfl⟩
  have hlen : L.length = s.size := by rw [hL]; rfl
  rw [← hL]
  obtain ⟨r, hr⟩ : ∃ r, r = decV L := ⟨_, rfl⟩
  rw [← hr]
  replace hL := hid hL
  replace hr := hid hr
  replace hlen := hid hlen
  go_enter Tryd.func10, Tryd.ntmps10
  go_wp2
  go_loopw [4, 5, 9] (fun n _ i wr => ∃ k : Nat, k ≤ 7 ∧ i = .int .i64 k ∧ n = .int .i64 (val7 (L.take k)) ∧ decVF L (8 - (k + 1)) (k + 1) = r ∧ Below w.heap.size w wr) (fun _ _ i _ => 7 - (intOf i).toNat)
  case atStart => exact ⟨0, by omega, rfl, rfl, hr.out.symm, Below.refl _ _⟩
  case round =>
    obtain ⟨k, hkM, rfl, rfl, hd, hb⟩ := hrel
    replace hd := hid hd
    by_cases hk : k < 7
    · have hks : k < s.size := by omega
      have hc := toNat_lt s[k]
      have hkl : (L.take k).length = k := by rw [List.length_take, hlen.out]; omega
      have hn := val7_lt (L.take k)
      rw [hkl] at hn
      have hLk : L[k]'(by rw [hlen.out]; exact hks) = s[k] := by
        have hLs := hL.out
        subst hLs
        rfl
      have hval : val7 (L.take (k + 1)) = val7 (L.take k) + s[k].toNat % 128 * 128 ^ k := by
        rw [List.take_succ_eq_append_getElem (by rw [hlen.out]; exact hks), val7_snoc, hkl, hLk]
      have hor := i64_or7 (val7 (L.take k)) s[k].toNat k (by omega) hn
      rw [← hval] at hor
      have hsh : k ≤ 6 := by omega
      have hl1 : k + 1 ≤ L.length := by rw [hlen.out]; omega
      replace hkl := hid hkl
      replace hn := hid hn
      replace hl1 := hid hl1
      replace hval := hid hval
      by_cases hge : 128 ≤ s[k].toNat
      · have hno : ¬ leb (val7 (L.take (k + 1))) = L.take (k + 1) := no_end (i := k) (by have := hl1.out; omega) (by rw [hLk]; omega)
        replace hLk := hid hLk
        replace hno := hid hno
        go_wp2
        go_roundw
        case rel => exact ⟨k + 1, by omega, by go_num, rfl, decV_next (by omega) hl1.out hd.out hno.out, hb⟩
        case measure => simp [intOf]; omega
      · have hpast := decVF_past (l := L) (i := k) (by have := hl1.out; omega) (by rw [hLk]; omega)
        have hcm := cmpV hL.out (val7 (L.take (k + 1))) (k + 1) (val7_take_le _ _ (by omega))
        replace hLk := hid hLk
        replace hpast := hid hpast
        by_cases he : leb (val7 (L.take (k + 1))) = L.take (k + 1)
        · rw [decide_eq_true he] at hcm
          replace he := hid he
          have hz1 : IntKind.i64.wrap ((k : Int) + 1) = (k : Int) + 1 := IntWalk.i64_in _ (by omega)
          have hz2 : ((k : Int) + 1).toNat = k + 1 := by omega
          have hz3 : (k : Int) + 1 ≤ (s.size : Int) := by omega
          have hz4 : 0 ≤ (k : Int) + 1 := by omega
          go_wp2
          go_region_with (go_at_call 9; refine (implEncV _ _).mono ?_; rintro e w1 ⟨rfl, hb1⟩)
          clear hz1 hz2 hz3 hz4
          have hb2 := hb.drew.trans (hb1.mono hb.size)
          go_wp2
          go_ret2
          have hf := decV_found (by omega) hl1.out hd.out he.out
          exact ⟨ret_two (by rw [hf]) (by rw [hf]; rfl), hb2⟩
        · rw [decide_eq_false he] at hcm
          replace he := hid he
          have hz1 : IntKind.i64.wrap ((k : Int) + 1) = (k : Int) + 1 := IntWalk.i64_in _ (by omega)
          have hz2 : ((k : Int) + 1).toNat = k + 1 := by omega
          have hz3 : (k : Int) + 1 ≤ (s.size : Int) := by omega
          have hz4 : 0 ≤ (k : Int) + 1 := by omega
          go_wp2
          go_region_with (go_at_call 9; refine (implEncV _ _).mono ?_; rintro e w1 ⟨rfl, hb1⟩)
          clear hz1 hz2 hz3 hz4
          have hb2 := hb.drew.trans (hb1.mono hb.size)
          go_wp2
          go_ret2
          have hf := decV_next (by omega) hl1.out hd.out he.out
          rw [hpast.out _ _ (by omega)] at hf
          exact ⟨ret_two (by rw [← hf]; rfl) (by rw [← hf]; rfl), hb2⟩
    · obtain rfl : k = 7 := by omega
      go_wp2
      go_ret2
      have hf := hd.out
      exact ⟨ret_two (by rw [← hf]; rfl) (by rw [← hf]; rfl), hb⟩
set_option maxHeartbeats 800000 in
set_option maxRecDepth 100000 in
theorem implDecV_short (s : ByteArray) (w : World) (hs : s.size ≤ 1048576) (h7 : (s.size : Int) ≤ 7) :
    Calls Tryd.prog 10 #[.string s] w fun e w' => e = .returned (.tuple #[.int .i64 (decV s.data.toList).1, .int .i64 (decV s.data.toList).2]) ∧ Below w.heap.size w w' := by
  obtain ⟨L, hL⟩ : ∃ L, L = s.data.toList := ⟨_, rfl⟩
  have hlen : L.length = s.size := by rw [hL]; rfl
  rw [← hL]
  obtain ⟨r, hr⟩ : ∃ r, r = decV L := ⟨_, rfl⟩
  rw [← hr]
  replace hL := hid hL
  replace hr := hid hr
  replace hlen := hid hlen
  go_enter Tryd.func10, Tryd.ntmps10
  go_wp2
  go_loopw [4, 5, 9] (fun n _ i wr => ∃ k : Nat, k ≤ s.size ∧ i = .int .i64 k ∧ n = .int .i64 (val7 (L.take k)) ∧ decVF L (8 - (k + 1)) (k + 1) = r ∧ Below w.heap.size w wr) (fun _ _ i _ => s.size - (intOf i).toNat)
  case atStart => exact ⟨0, by omega, rfl, rfl, hr.out.symm, Below.refl _ _⟩
  case round =>
    obtain ⟨k, hkM, rfl, rfl, hd, hb⟩ := hrel
    replace hd := hid hd
    by_cases hk : k < s.size
    · have hks : k < s.size := by omega
      have hc := toNat_lt s[k]
      have hkl : (L.take k).length = k := by rw [List.length_take, hlen.out]; omega
      have hn := val7_lt (L.take k)
      rw [hkl] at hn
      have hLk : L[k]'(by rw [hlen.out]; exact hks) = s[k] := by
        have hLs := hL.out
        subst hLs
        rfl
      have hval : val7 (L.take (k + 1)) = val7 (L.take k) + s[k].toNat % 128 * 128 ^ k := by
        rw [List.take_succ_eq_append_getElem (by rw [hlen.out]; exact hks), val7_snoc, hkl, hLk]
      have hor := i64_or7 (val7 (L.take k)) s[k].toNat k (by omega) hn
      rw [← hval] at hor
      have hsh : k ≤ 6 := by omega
      have hl1 : k + 1 ≤ L.length := by rw [hlen.out]; omega
      replace hkl := hid hkl
      replace hn := hid hn
      replace hl1 := hid hl1
      replace hval := hid hval
      by_cases hge : 128 ≤ s[k].toNat
      · have hno : ¬ leb (val7 (L.take (k + 1))) = L.take (k + 1) := no_end (i := k) (by have := hl1.out; omega) (by rw [hLk]; omega)
        replace hLk := hid hLk
        replace hno := hid hno
        go_wp2
        go_roundw
        case rel => exact ⟨k + 1, by omega, by go_num, rfl, decV_next (by omega) hl1.out hd.out hno.out, hb⟩
        case measure => simp [intOf]; omega
      · have hpast := decVF_past (l := L) (i := k) (by have := hl1.out; omega) (by rw [hLk]; omega)
        have hcm := cmpV hL.out (val7 (L.take (k + 1))) (k + 1) (val7_take_le _ _ (by omega))
        replace hLk := hid hLk
        replace hpast := hid hpast
        by_cases he : leb (val7 (L.take (k + 1))) = L.take (k + 1)
        · rw [decide_eq_true he] at hcm
          replace he := hid he
          have hz1 : IntKind.i64.wrap ((k : Int) + 1) = (k : Int) + 1 := IntWalk.i64_in _ (by omega)
          have hz2 : ((k : Int) + 1).toNat = k + 1 := by omega
          have hz3 : (k : Int) + 1 ≤ (s.size : Int) := by omega
          have hz4 : 0 ≤ (k : Int) + 1 := by omega
          go_wp2
          go_region_with (go_at_call 9; refine (implEncV _ _).mono ?_; rintro e w1 ⟨rfl, hb1⟩)
          clear hz1 hz2 hz3 hz4
          have hb2 := hb.drew.trans (hb1.mono hb.size)
          go_wp2
          go_ret2
          have hf := decV_found (by omega) hl1.out hd.out he.out
          exact ⟨ret_two (by rw [hf]) (by rw [hf]; rfl), hb2⟩
        · rw [decide_eq_false he] at hcm
          replace he := hid he
          have hz1 : IntKind.i64.wrap ((k : Int) + 1) = (k : Int) + 1 := IntWalk.i64_in _ (by omega)
          have hz2 : ((k : Int) + 1).toNat = k + 1 := by omega
          have hz3 : (k : Int) + 1 ≤ (s.size : Int) := by omega
          have hz4 : 0 ≤ (k : Int) + 1 := by omega
          go_wp2
          go_region_with (go_at_call 9; refine (implEncV _ _).mono ?_; rintro e w1 ⟨rfl, hb1⟩)
          clear hz1 hz2 hz3 hz4
          have hb2 := hb.drew.trans (hb1.mono hb.size)
          go_wp2
          go_ret2
          have hf := decV_next (by omega) hl1.out hd.out he.out
          rw [hpast.out _ _ (by omega)] at hf
          exact ⟨ret_two (by rw [← hf]; rfl) (by rw [← hf]; rfl), hb2⟩
    · have hke : k = s.size := by omega
      replace hke := hid hke
      go_wp2
      go_ret2
      have hf := hd.out
      rw [decVF_short (by rw [hlen.out]; have := hke.out; omega)] at hf
      exact ⟨ret_two (by rw [← hf]; rfl) (by rw [← hf]; rfl), hb⟩
theorem implDecV (s : ByteArray) (w : World) (hs : s.size ≤ 1048576) :
    Calls Tryd.prog 10 #[.string s] w fun e w' => e = .returned (.tuple #[.int .i64 (decV s.data.toList).1, .int .i64 (decV s.data.toList).2]) ∧ Below w.heap.size w w' := by
  by_cases h7 : 7 < (s.size : Int)
  · exact implDecV_long s w hs h7
  · exact implDecV_short s w hs (by omega)
end Go.Proofs.YtdacfnoemjleiaaDoor
