/- Drawn texts (spec/l01_num.go, spec/l01_draw.go): l1Text, l1Spoil, l1Pick. -/
import Derived.Test.YthjlemcnddkjgaaDWa
import Derived.Test.YthjlemcnddkjgaaS
import Derived.Laws.Concat
import Derived.Deep.RegionWith
namespace Go.Proofs.Ythjlemcnddkjgaa
open Go.RowKit
set_option linter.unusedVariables false

/-- A text of at most m bytes comes back; the cursor has moved. -/
def TextIn (m : Nat) (B g : Nat) (a : Option Addr) (len cap : Nat) (w : World) (e : Ending) (w' : World) : Prop :=
  ∃ S : ByteArray, S.size ≤ m ∧ e = .returned (.string S) ∧ w.grownBy w' (some g) ∧ Dr B g a len cap w'
theorem byte_in {B g : Nat} {a : Option Addr} {len cap : Nat} {w : World} (h : Dr B g a len cap w) :
    Calls Try.prog 79 #[.pointer (some ⟨g, 0, none⟩)] w (NumIn (fun x => 0 ≤ x ∧ x ≤ 255) B g a len cap w) :=
  (l1Byte_end B w g a len cap h.1 h.2).mono fun e w' ⟨x, h1, he, hg, hc⟩ => ⟨x, by omega, he, hg, h.next hg hc⟩
theorem OwnsB.kept2 {w w' : World} {base : Nat} {v : Value} {bs : List UInt8} (h : OwnsB w base v bs) {g : Nat} (hg : w.grownBy w' (some g)) (hlt : g < base) : OwnsB w' base v bs :=
  World.ownsRow.kept h hg (by
    rcases hv : v.ownBlock with _ | k
    · exact .inl rfl
    · refine .inr (fun e => ?_)
      have := (World.ownsRow.lt h k hv).1
      cases e
      omega)
set_option maxHeartbeats 1600000 in
set_option maxRecDepth 100000 in
theorem text_in {B g : Nat} {a : Option Addr} {len cap : Nat} {w : World} (h : Dr B g a len cap w) (M : Int) (most : Nat) (hM : M + 1 = ((most + 1 : Nat) : Int)) (hm : most ≤ 1000) :
    Calls Try.prog 83 #[.pointer (some ⟨g, 0, none⟩), .int .i64 M] w (TextIn most B g a len cap w) := by
  have hlt := h.lt
  have hown0 := hidI (OwnsB.lit w)
  have hd0 := hidI (h.alloc (.cells #[] 5))
  have hMb : 0 ≤ M ∧ M ≤ 1000 := by omega
  obtain ⟨hM0, hM1⟩ := hMb
  replace hM := hidI hM
  clear h
  go_enter Try.func83, Try.ntmps83
  go_wp2_with fail
  refine (below_in hd0.out 4 4 rfl (by omega) (by omega)).mono ?_
  rintro e w1 ⟨y, ⟨hy0, hy1⟩, rfl, hg1, hd1⟩
  have hown1 := hidI (hown0.out.kept2 hg1 hlt)
  have hgw1 := hidI (grown_trans (World.grownBy_alloc w (.cells #[] 5) (some g)) hg1)
  replace hd1 := hidI hd1
  clear hg1 hown0 hd0
  go_wp2_with fail
  refine (below_in hd1.out (M + 1) (most + 1) hM.out (by omega) (by omega)).mono ?_
  rintro e w2 ⟨n, ⟨hn0, hn1⟩, rfl, hg2, hd2⟩
  have hown2 := hidI (hown1.out.kept2 hg2 hlt)
  have hgw2 := hidI (grown_trans hgw1.out hg2)
  have hs2 : w.heap.size ≤ w2.heap.size := hgw2.out.size
  have hnm : n.toNat ≤ most := by have := hM.out; omega
  have hnn : n = ((n.toNat : Nat) : Int) := by omega
  replace hd2 := hidI hd2
  replace hnn := hidI hnn
  clear hg2 hown1 hd1 hgw1
  go_wp2
  go_loopw [5, 7, 8] (fun v nn _ wr => ∃ (k : Nat) (acc : List UInt8), acc.length + k ≤ most ∧ nn = .int .i64 (k : Int) ∧ Hid (OwnsB wr w.heap.size v acc) ∧ Hid (Dr B g a len cap wr) ∧ Hid (w.grownBy wr (some g)) ∧ w.heap.size ≤ wr.heap.size) (fun _ nn _ _ => (intOf nn).toNat)
  case atStart => exact ⟨n.toNat, [], by simpa using hnm, by rw [← hnn.out], hown2, hd2, hgw2, hs2⟩
  case round =>
    clear hown2 hd2 hgw2 hs2 hnn hnm hn0 hn1
    obtain ⟨k, acc, hk, rfl, hown, hd, hgw, hs⟩ := hrel
    by_cases hk0 : 0 < k
    · go_wp2_with fail
      refine (byte_in hd.out).mono ?_
      rintro e w3 ⟨x, ⟨hx0, hx1⟩, rfl, hg3, hd3⟩
      obtain ⟨x, rfl⟩ := Int.eq_ofNat_of_zero_le hx0
      have hown3 := hidI (hown.out.kept2 hg3 hlt)
      have hgw3 := hidI (grown_trans hgw.out hg3)
      have hs3 : w.heap.size ≤ w3.heap.size := hgw3.out.size
      have hkm : acc.length ≤ 1000000000 := by omega
      replace hd3 := hidI hd3
      clear hg3 hown hd hgw hs
      by_cases hy1' : y = 1
      · subst hy1'
        obtain ⟨c, hc⟩ : ∃ c, c = UInt8.ofNat (x % 2) := ⟨_, rfl⟩
        have hcv : (x : Int) % 2 = (c.toNat : Int) := by rw [hc]; simp; omega
        clear hc
        replace hcv := hidI hcv
        go_wp2_with (at_builtin; go_must (refine wpList_push rfl _ _ rfl w.heap.size _ acc c _ hcv.out rfl rfl (by exact hown3.out) hkm hs3 ?_))
        intro v' w' hown' hb'
        have hd' := hidI (hd3.out.over hb' hlt)
        have hgw' := hidI (grown_below hgw3.out hb')
        have hs' : w.heap.size ≤ w'.heap.size := hgw'.out.size
        replace hown' := hidI hown'
        clear hb' hown3 hd3 hgw3
        go_wp2
        go_roundw
        case rel => exact ⟨k - 1, acc ++ [c], by simp; omega, by go_num, hown', hd', hgw', hs'⟩
        case measure => simp [intOf]; omega
      · by_cases hy2' : y = 2
        · subst hy2'
          obtain ⟨c, hc⟩ : ∃ c, c = UInt8.ofNat (97 + x % 4) := ⟨_, rfl⟩
          have hcv : 97 + (x : Int) % 4 = (c.toNat : Int) := by rw [hc]; simp; omega
          clear hc
          replace hcv := hidI hcv
          go_wp2_with (at_builtin; go_must (refine wpList_push rfl _ _ rfl w.heap.size _ acc c _ hcv.out rfl rfl (by exact hown3.out) hkm hs3 ?_))
          intro v' w' hown' hb'
          have hd' := hidI (hd3.out.over hb' hlt)
          have hgw' := hidI (grown_below hgw3.out hb')
          have hs' : w.heap.size ≤ w'.heap.size := hgw'.out.size
          replace hown' := hidI hown'
          clear hb' hown3 hd3 hgw3
          go_wp2
          go_roundw
          case rel => exact ⟨k - 1, acc ++ [c], by simp; omega, by go_num, hown', hd', hgw', hs'⟩
          case measure => simp [intOf]; omega
        · have e1 : (y == 1) = false := by rw [beq_eq_false_iff_ne]; exact hy1'
          have e2 : (y == 2) = false := by rw [beq_eq_false_iff_ne]; exact hy2'
          clear hy1' hy2'
          obtain ⟨c, hc⟩ : ∃ c, c = UInt8.ofNat x := ⟨_, rfl⟩
          have hcv : (x : Int) = (c.toNat : Int) := by rw [hc]; simp; omega
          clear hc
          replace hcv := hidI hcv
          go_wp2_with (at_builtin; go_must (refine wpList_push rfl _ _ rfl w.heap.size _ acc c _ hcv.out rfl rfl (by exact hown3.out) hkm hs3 ?_))
          intro v' w' hown' hb'
          have hd' := hidI (hd3.out.over hb' hlt)
          have hgw' := hidI (grown_below hgw3.out hb')
          have hs' : w.heap.size ≤ w'.heap.size := hgw'.out.size
          replace hown' := hidI hown'
          clear hb' hown3 hd3 hgw3
          go_wp2
          go_roundw
          case rel => exact ⟨k - 1, acc ++ [c], by simp; omega, by go_num, hown', hd', hgw', hs'⟩
          case measure => simp [intOf]; omega
    · obtain rfl : k = 0 := by omega
      have hcv := hown.out.conv
      have hr : TextIn most B g a len cap w (.returned (.string ⟨acc.toArray⟩)) _ := ⟨⟨acc.toArray⟩, by show acc.toArray.size ≤ most; rw [List.size_toArray]; omega, rfl, hgw.out, hd.out⟩
      replace hr := hidI hr
      go_wp2
      go_ret
      exact hr.out
/-- A list of texts of at most m bytes in a block of its own. -/
def PTexts (m : Nat) (w : World) (gl n : Nat) : Prop := ∀ j, j < n → ∃ S : ByteArray, S.size ≤ m ∧ w.cell? ⟨gl, j, none⟩ = some (.string S)
theorem ptexts_lit (m : Nat) (w : World) (zs : List ByteArray) (C : Array Value) (hC : C = (zs.map Value.string).toArray) (hz : ∀ z ∈ zs, z.size ≤ m) : PTexts m (w.alloc (.cells C 9)) w.heap.size zs.length := by
  subst hC
  intro j hj
  refine ⟨zs[j], hz _ (List.getElem_mem hj), ?_⟩
  rw [World.cell?_alloc_new]
  simp [hj]
set_option maxHeartbeats 800000 in
theorem pickText_in (m : Nat) {B g : Nat} {a : Option Addr} {len cap : Nat} {w : World} (h : Dr B g a len cap w) (gl n : Nat) (hn : 1 ≤ n) (hn2 : n ≤ 256) (hgl : gl ≠ g) (hl : PTexts m w gl n) :
    Calls Try.prog 72 #[.pointer (some ⟨g, 0, none⟩), .slice (some ⟨gl, 0, none⟩) n n] w (TextIn m B g a len cap w) := by
  have hcall := below_in h (n : Int) n rfl hn (by omega)
  replace h := hidI h
  replace hl := hidI hl
  go_enter Try.func72, Try.ntmps72
  go_wp2_with fail
  refine hcall.mono ?_
  rintro e w1 ⟨x, ⟨hx0, hx1⟩, rfl, hg, hd⟩
  obtain ⟨j, rfl⟩ := Int.eq_ofNat_of_zero_le hx0
  have hj : j < n := by omega
  obtain ⟨S, hS, hcell⟩ := hl.out j hj
  have hcell1 : w1.cell? ⟨gl, j, none⟩ = some (.string S) := hg.cell hcell (by simp; omega)
  have hr : TextIn m B g a len cap w (.returned (.string S)) w1 := ⟨S, hS, rfl, hg, hd⟩
  replace hr := hidI hr
  replace hcell := hidI hcell
  clear hd hg hS hcall
  go_wp2_with fail
  go_ret
  exact hr.out
end Go.Proofs.Ythjlemcnddkjgaa
