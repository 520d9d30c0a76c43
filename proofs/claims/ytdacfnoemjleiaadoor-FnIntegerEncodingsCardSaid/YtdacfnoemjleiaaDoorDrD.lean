/- The drawn texts: l1Text; the drawers of chapter 1. -/
import Derived.Test.YtdacfnoemjleiaaDoorDrC
namespace Go.Proofs.YtdacfnoemjleiaaDoor
open Go.RowKit
set_option linter.unusedVariables false

theorem OwnsB.kept {w w' : World} {base : Nat} {v : Value} {bs : List UInt8} (h : OwnsB w base v bs) {g : Nat} (hg : w.grownBy w' (some g)) (hlt : g < base) : OwnsB w' base v bs :=
  World.ownsRow.kept h hg (by
    rcases hv : v.ownBlock with _ | k
    · exact .inl rfl
    · refine .inr (fun e => ?_)
      have := (World.ownsRow.lt h k hv).1
      cases e
      omega)
/-- What a drawer of texts leaves. -/
def TextRet (most : Nat) (B : Nat) (w : World) (e : Ending) (w' : World) : Prop :=
  ∃ bs : List UInt8, bs.length ≤ most ∧ e = .returned (.string ⟨bs.toArray⟩) ∧ Below B w w'
theorem TextRet.mk' {most B : Nat} {w : World} {bs : List UInt8} {w' : World} (h1 : bs.length ≤ most) (hb : Below B w w') : TextRet most B w (.returned (.string ⟨bs.toArray⟩)) w' := ⟨bs, h1, rfl, hb⟩

set_option maxHeartbeats 1600000 in
set_option maxRecDepth 100000 in
theorem l1Text_any (B : Nat) (w : World) (g : Nat) (a : Option Addr) (len cap : Nat) (hc : CurAt B w g a len cap) (hcode : CodeIn B w a len) (M : Int) (most : Nat) (hM : M + 1 = ((most + 1 : Nat) : Int)) (hm : most ≤ 1000) :
    Calls Tryd.prog 23 #[.pointer (some ⟨g, 0, none⟩), .int .i64 M] w (TextRet most B w) := by
  have hB := hc.1
  have hlt := hc.lt
  have hb0 : Below B w (w.alloc (.cells #[] 5)) := (Below.refl _ _).alloc (by omega) _
  have hown0 := hid (OwnsB.lit w)
  have hc0 := hid (hc.alloc (.cells #[] 5))
  have hcode0 := hid (hcode.below hb0)
  have hMb : 0 ≤ M ∧ M ≤ 1000 := by omega
  obtain ⟨hM0, hM1⟩ := hMb
  replace hM := hid hM
  clear hc hcode
  go_enter Tryd.func23, Tryd.ntmps23
  go_wp2_with fail
  refine (l1Below_lit B _ g a len cap hc0.out hcode0.out 4 4 rfl (by omega) (by omega)).mono ?_
  rintro e w1 ⟨y, hy0, hy1, rfl, hg1, hc1⟩
  have hb1 := hb0.trans (hc0.out.below hg1)
  have hcode1 := hid (hcode0.out.below (hc0.out.below hg1))
  have hown1 := hid (hown0.out.kept hg1 hlt)
  have hs1 : w.heap.size ≤ w1.heap.size := by have := hg1.size; simp at this; omega
  replace hc1 := hid hc1
  clear hg1 hb0 hown0 hc0 hcode0
  go_wp2_with fail
  refine (l1Below_lit B _ g a len cap hc1.out hcode1.out (M + 1) (most + 1) hM.out (by omega) (by omega)).mono ?_
  rintro e w2 ⟨n, hn0, hn1, rfl, hg2, hc2⟩
  have hb2 := hb1.trans (hc1.out.below hg2)
  have hcode2 := hid (hcode1.out.below (hc1.out.below hg2))
  have hown2 := hid (hown1.out.kept hg2 hlt)
  have hs2 : w.heap.size ≤ w2.heap.size := by have := hg2.size; omega
  have hnm : n.toNat ≤ most := by have := hM.out; omega
  have hnn : n = ((n.toNat : Nat) : Int) := by omega
  replace hc2 := hid hc2
  replace hnn := hid hnn
  clear hg2 hb1 hown1 hc1 hcode1 hs1
  go_wp2
  go_loopw [5, 7, 8] (fun v nn _ wr => ∃ (k : Nat) (acc : List UInt8), acc.length + k ≤ most ∧ nn = .int .i64 (k : Int) ∧ OwnsB wr w.heap.size v acc ∧ CurAt B wr g a len cap ∧ CodeIn B wr a len ∧ Below B w wr ∧ w.heap.size ≤ wr.heap.size) (fun _ nn _ _ => (intOf nn).toNat)
  case atStart => exact ⟨n.toNat, [], by simpa using hnm, by rw [← hnn.out], hown2.out, hc2.out, hcode2.out, hb2, hs2⟩
  case round =>
    clear hb2 hown2 hc2 hcode2 hs2 hnn hnm hn0 hn1
    obtain ⟨k, acc, hk, rfl, hown, hcur, hcd, hb, hs⟩ := hrel
    replace hcur := hid hcur
    replace hcd := hid hcd
    replace hown := hid hown
    by_cases hk0 : 0 < k
    · go_wp2_with fail
      refine (l1Byte_end B _ g a len cap hcur.out hcd.out).mono ?_
      rintro e w3 ⟨x, hx, rfl, hg3, hc3⟩
      have hb3 := hb.trans (hcur.out.below hg3)
      have hcode3 := hid (hcd.out.below (hcur.out.below hg3))
      have hown3 := hid (hown.out.kept hg3 hlt)
      have hs3 : w.heap.size ≤ w3.heap.size := by have := hg3.size; omega
      have hkm : acc.length ≤ 1000000000 := by omega
      replace hc3 := hid hc3
      clear hg3 hb hown hcur hcd hs
      by_cases hy1' : y = 1
      · subst hy1'
        obtain ⟨c, hc⟩ : ∃ c, c = UInt8.ofNat (x % 2) := ⟨_, rfl⟩
        have hcv : (x : Int) % 2 = (c.toNat : Int) := by rw [hc]; simp; omega
        clear hc
        replace hcv := hid hcv
        go_wp2_with (at_builtin; go_must (refine wpList_push rfl _ _ rfl w.heap.size _ acc c _ hcv.out rfl rfl (by exact hown3.out) hkm hs3 ?_))
        intro v' w' hown' hb'
        have hc' := hid (hc3.out.over hlt hb')
        have hbb : Below B w3 w' := hb'.mono (by omega)
        have hcode' := hid (hcode3.out.below hbb)
        have hs' : w.heap.size ≤ w'.heap.size := by have := hb'.size; omega
        have hb4 := hb3.trans hbb
        replace hown' := hid hown'
        clear hb' hbb hown3 hc3 hcode3 hb3
        go_wp2
        go_roundw
        case rel => exact ⟨k - 1, acc ++ [c], by simp; omega, by go_num, hown'.out, hc'.out, hcode'.out, hb4, hs'⟩
        case measure => simp [intOf]; omega
      · by_cases hy2' : y = 2
        · subst hy2'
          obtain ⟨c, hc⟩ : ∃ c, c = UInt8.ofNat (97 + x % 4) := ⟨_, rfl⟩
          have hcv : 97 + (x : Int) % 4 = (c.toNat : Int) := by rw [hc]; simp; omega
          clear hc
          replace hcv := hid hcv
          go_wp2_with (at_builtin; go_must (refine wpList_push rfl _ _ rfl w.heap.size _ acc c _ hcv.out rfl rfl (by exact hown3.out) hkm hs3 ?_))
          intro v' w' hown' hb'
          have hc' := hid (hc3.out.over hlt hb')
          have hbb : Below B w3 w' := hb'.mono (by omega)
          have hcode' := hid (hcode3.out.below hbb)
          have hs' : w.heap.size ≤ w'.heap.size := by have := hb'.size; omega
          have hb4 := hb3.trans hbb
          replace hown' := hid hown'
          clear hb' hbb hown3 hc3 hcode3 hb3
          go_wp2
          go_roundw
          case rel => exact ⟨k - 1, acc ++ [c], by simp; omega, by go_num, hown'.out, hc'.out, hcode'.out, hb4, hs'⟩
          case measure => simp [intOf]; omega
        · have e1 : (y == 1) = false := by rw [beq_eq_false_iff_ne]; exact hy1'
          have e2 : (y == 2) = false := by rw [beq_eq_false_iff_ne]; exact hy2'
          clear hy1' hy2'
          obtain ⟨c, hc⟩ : ∃ c, c = UInt8.ofNat x := ⟨_, rfl⟩
          have hcv : (x : Int) = (c.toNat : Int) := by rw [hc]; simp; omega
          clear hc
          replace hcv := hid hcv
          go_wp2_with (at_builtin; go_must (refine wpList_push rfl _ _ rfl w.heap.size _ acc c _ hcv.out rfl rfl (by exact hown3.out) hkm hs3 ?_))
          intro v' w' hown' hb'
          have hc' := hid (hc3.out.over hlt hb')
          have hbb : Below B w3 w' := hb'.mono (by omega)
          have hcode' := hid (hcode3.out.below hbb)
          have hs' : w.heap.size ≤ w'.heap.size := by have := hb'.size; omega
          have hb4 := hb3.trans hbb
          replace hown' := hid hown'
          clear hb' hbb hown3 hc3 hcode3 hb3
          go_wp2
          go_roundw
          case rel => exact ⟨k - 1, acc ++ [c], by simp; omega, by go_num, hown'.out, hc'.out, hcode'.out, hb4, hs'⟩
          case measure => simp [intOf]; omega
    · obtain rfl : k = 0 := by omega
      have hcv := hown.out.conv
      go_wp2
      go_ret
      exact TextRet.mk' (by omega) hb
end Go.Proofs.YtdacfnoemjleiaaDoor
