/- DecodeHex, impl. -/
import Derived.Test.YtdacfnoemjleiaaDoorHexD
namespace Go.Proofs.YtdacfnoemjleiaaDoor
open Go.RowKit
set_option linter.unusedVariables false

set_option maxHeartbeats 800000 in
theorem implHexD (s : ByteArray) (w : World) (hs : s.size ≤ 1048576) :
    Calls Tryd.prog 16 #[.string s] w fun e w' => e = .returned (.tuple #[.string ⟨(decHex s.data.toList).1.toArray⟩, .bool (decHex s.data.toList).2]) ∧ Below w.heap.size w w' := by
  obtain ⟨L, hL⟩ : ∃ L, L = s.data.toList := ⟨_, rfl⟩
  have hlen : L.length = s.size := by rw [hL]; rfl
  rw [← hL]
  obtain ⟨r, hr⟩ : ∃ r, r = decHex L := ⟨_, rfl⟩
  rw [← hr]
  by_cases hev : s.size % 2 = 0
  · have hmod : ((s.size : Int) % 2 != 0) = false := by rw [bne_eq_false_iff_eq]; omega
    obtain ⟨n, hn⟩ : ∃ n, s.size = 2 * n := ⟨s.size / 2, by omega⟩
    have hdiv : (s.size : Int) / 2 = (n : Int) := by omega
    have hn2 : n ≤ 1048576 := by omega
    replace hn := hid hn
    replace hev := hid hev
    replace hL := hid hL
    replace hr := hid hr
    replace hlen := hid hlen
    obtain ⟨i0, hi, hz0, hz1, hz2⟩ := info_parts info8
    go_enter Tryd.func16, Tryd.ntmps16
    go_wp2_with (at_make; go_must (refine wpList_make_full _ rfl _ _ 22 rfl w.heap.size 5 i0 (.int .u8 0) 1 Tryd.underlying22 hi hz0 hz1 .i64 .i64 _ _ n rfl rfl rfl rfl ?c1 ?c2 ?c3 ?_))
    case c1 => rw [hz2]; omega
    case c2 => unfold maxLen; omega
    case c3 => exact Nat.le_refl _
    intro w1 hown hg
    rw [made_bytes] at hown
    have hb := (Below.refl w.heap.size w).grown hg (Nat.le_refl _) (by intro k hk; cases hk)
    have hsz1 : w.heap.size < w1.heap.size := (hown.lt w.heap.size rfl).2
    clear hg hi hz0 hz1 hz2
    replace hown := hid hown
    go_wp2
    have hit0 : (w1.iter s 0).heap[w1.heap.size]? = some (.stringIter s 0) := World.iter_heap w1 s 0
    have hown1 : (w1.iter s 0).ownsRow w.heap.size 5 1 (.slice (some ⟨w.heap.size, 0, none⟩) n n) n ((stp (L.take 0) n).map bv) := hown.out.alloc _
    have hb1 : Below w.heap.size w (w1.iter s 0) := hb.alloc (Nat.le_of_lt hsz1) _
    clear hown hb
    obtain ⟨J, hJ⟩ : ∃ J, J = w1.heap.size := ⟨_, rfl⟩
    rw [← hJ] at hit0 hsz1
    replace hit0 := hid hit0
    replace hown1 := hid hown1
    rw [← hJ]
    replace hJ := hid hJ
    go_loopw [5, 6, 7, 8] (fun _ _ _ _ wr => ∃ k : Nat, k ≤ s.size ∧ wr.heap[J]? = some (.stringIter s k) ∧ wr.ownsRow w.heap.size 5 1 (.slice (some ⟨w.heap.size, 0, none⟩) n n) n ((stp (L.take k) n).map bv) ∧ (L.take k).all isH = true ∧ Below w.heap.size w wr) (fun _ _ _ _ wr => s.size - wr.iterPos J)
    case atStart => exact ⟨0, Nat.zero_le _, hit0.out, hown1.out, rfl, hb1⟩
    case round =>
      clear hown1 hb1 hit0
      obtain ⟨k, hks, hit, hown, hall, hb⟩ := hrel
      by_cases hlt : k < s.size
      · have hkL : k < L.length := by rw [hlen.out]; exact hlt
        have e1 : L[k] = s[k] := by have h := hL.out; subst h; rfl
        cases hi1 : isH s[k] with
        | false =>
          have hf : r = ([], false) := by rw [hr.out]; exact decHex_bad (i := k) hkL (by rw [e1]; exact hi1)
          have hdec : ¬ (48 ≤ ((Utf8.decode s k).1 : Int) ∧ ((Utf8.decode s k).1 : Int) ≤ 57) ∧ ¬ (97 ≤ ((Utf8.decode s k).1 : Int) ∧ ((Utf8.decode s k).1 : Int) ≤ 102) := by
            by_cases ha : (s[k]).toNat < 128
            · rw [decode_ascii s k hlt ha]
              have := (not_congr (isH_iff s[k])).1 (by rw [hi1]; simp)
              simp only []
              omega
            · have := (decode_high s k hlt (by omega)).1
              omega
          obtain ⟨W2, hW2⟩ : ∃ W2, W2 = wr.iterAt J s (k + (Utf8.decode s k).2) := ⟨_, rfl⟩
          have hnx : ∀ ty, (Instr.next (.pointer (some ⟨J, 0, none⟩)) true ty).run Tryd.prog wr = .ok (.tuple #[.bool true, .int .i64 k, .int .i32 (Utf8.decode s k).1]) W2 := by
            intro ty
            rw [hW2]
            exact Lib.run_next_any_at wr J s k ty hit hlt
          have hb2 : Below w.heap.size w W2 := by rw [hW2]; exact Lib.below_iterAt hb (by omega) _ _
          obtain ⟨rn, hrn⟩ : ∃ rn : Int, rn = ((Utf8.decode s k).1 : Int) := ⟨_, rfl⟩
          rw [← hrn] at hdec
          simp only [← hrn] at hnx
          clear hrn hW2 e1 hall hown hit hi1 hkL
          replace hf := hid hf
          replace hdec := hid hdec
          go_wp2_with (go_at_call 27; refine (hexValue_no rn _ hdec.out.1 hdec.out.2).mono ?_; rintro e w' ⟨rfl, rfl⟩)
          go_ret2
          exact ⟨ret_sb (by rw [hf.out]) (by rw [hf.out]), hb2⟩
        | true =>
          have ha : (s[k]).toNat < 128 := by have := (isH_iff s[k]).1 hi1; omega
          have hkl : (L.take k).length = k := by rw [List.length_take]; omega
          have htk : L.take (k + 1) = L.take k ++ [s[k]] := by rw [List.take_succ_eq_append_getElem hkL, e1]
          obtain ⟨x, hx, hat, hset⟩ := stp_step (L.take k) n s[k] (by rw [hkl]; have := hn.out; omega)
          rw [hkl] at hat hset
          have hd := dgt_lt s[k]
          have hkn : k / 2 < n := by have := hn.out; omega
          obtain ⟨W2, hW2⟩ : ∃ W2, W2 = wr.iterAt J s (k + 1) := ⟨_, rfl⟩
          have hnx : ∀ ty, (Instr.next (.pointer (some ⟨J, 0, none⟩)) true ty).run Tryd.prog wr = .ok (.tuple #[.bool true, .int .i64 k, .int .i32 (s[k].toNat : Int)]) W2 := by
            intro ty
            rw [hW2]
            exact Lib.run_next_ascii_at wr J s k ty hit hlt ha
          have hb2 : Below w.heap.size w W2 := by rw [hW2]; exact Lib.below_iterAt hb (by omega) _ _
          have hit2 : W2.heap[J]? = some (.stringIter s (k + 1)) := by rw [hW2]; exact Lib.iterAt_heap wr J s k (k + 1) hit
          have hown2 : W2.ownsRow w.heap.size 5 1 (.slice (some ⟨w.heap.size, 0, none⟩) n n) n ((stp (L.take k) n).map bv) := by
            rw [hW2]
            exact hown.kept (grown_iterAt wr J s (k + 1)) (.inr (fun e => by simp [Value.ownBlock] at e; omega))
          have hcell : W2.cell? ⟨w.heap.size, k / 2, none⟩ = some (.int .u8 (x : Int)) := by
            rw [hown2.cellAt _ (by omega), List.getElem?_map, hat]
            have : x % 256 = x := by omega
            simp [bv, this]
          have hfr := hown2.frozenAt (k / 2)
          have hst := (hown2.stored (k / 2) (bv (UInt8.ofNat (x * 16 + dgt s[k])))).1
          rw [← List.map_set, hset, ← htk] at hst
          have hbv : bv (UInt8.ofNat (x * 16 + dgt s[k])) = .int .u8 ((x : Int) * 16 + (dgt s[k] : Int)) := by
            rw [bv_ofNat, Nat.mod_eq_of_lt (by omega)]
            simp
          rw [hbv] at hst
          have hit3 := iter_setCell hit2 ⟨w.heap.size, k / 2, none⟩ (by simp; omega) (.int .u8 ((x : Int) * 16 + (dgt s[k] : Int)))
          have hall2 : (L.take (k + 1)).all isH = true := by rw [htk]; exact all_snoc1 hall hi1
          have hpos : wr.iterPos J = k := iterPos_of hit
          have hpos2 := iterPos_of hit3
          clear hW2 e1 hall hown hit hit2 hkl htk hat hset hbv hown2
          replace hi1 := hid hi1
          replace hst := hid hst
          replace hit3 := hid hit3
          replace hall2 := hid hall2
          replace hpos := hid hpos
          replace hpos2 := hid hpos2
          go_wp2_with (go_at_call 27; refine (hexValue_yes s[k] _ hi1.out).mono ?_; rintro e w' ⟨rfl, rfl⟩)
          go_roundw
          case rel => exact ⟨k + 1, by omega, hit3.out, hst.out, hall2.out, hb2.setCell (by simp) _⟩
          case measure => rw [hpos.out, hpos2.out]; omega
      · have hnx : ∀ ty, (Instr.next (.pointer (some ⟨J, 0, none⟩)) true ty).run Tryd.prog wr = .ok (.tuple #[.bool false]) wr := fun ty => Lib.run_next_end_at wr J s k ty hit hlt
        have htk : L.take k = L := List.take_of_length_le (by rw [hlen.out]; omega)
        rw [htk] at hown hall
        have hf := decHex_yes (by rw [hlen.out]; exact hev.out) hall
        rw [stp_full L n (by rw [hlen.out]; exact hn.out)] at hown
        have hdl : (decH L).length = n := by
          have := stp_length L n (by rw [hlen.out]; have := hn.out; omega)
          rw [stp_full L n (by rw [hlen.out]; exact hn.out)] at this
          exact this
        have hcv : (convert 22 9 (.slice (some ⟨w.heap.size, 0, none⟩) n n)).run Tryd.prog wr = .ok (.string ⟨(decH L).toArray⟩) wr :=
          conv_own (base := w.heap.size) (by rw [hdl]; exact hown)
        replace hown := hid hown
        replace hall := hid hall
        replace hf := hid hf
        replace htk := hid htk
        replace hdl := hid hdl
        replace hit := hid hit
        go_wp2
        go_ret2
        exact ⟨ret_sb (by rw [hr.out, hf.out]) (by rw [hr.out, hf.out]), hb⟩
  · have hmod : ((s.size : Int) % 2 != 0) = true := by rw [bne_iff_ne]; omega
    have hodd := decHex_odd (l := L) (by omega)
    replace hL := hid hL
    replace hlen := hid hlen
    replace hodd := hid hodd
    replace hr := hid hr
    go_enter Tryd.func16, Tryd.ntmps16
    go_wp2
    go_ret2
    exact ⟨ret_sb (by rw [hr.out, hodd.out]) (by rw [hr.out, hodd.out]), Below.refl _ _⟩
end Go.Proofs.YtdacfnoemjleiaaDoor
