/- Drawn words (spec/l02_word.go): a rank and a word; the drawers of words. -/
import Derived.Test.YthjlemcnddkjgaaDWa
namespace Go.Proofs.Ythjlemcnddkjgaa
open Go.RowKit
set_option linter.unusedVariables false

/-- A rank and a slice of ints with P come back; the cursor has moved. -/
def RankIntsIn (P : Int → List Int → Prop) (B g : Nat) (a : Option Addr) (len cap : Nat) (w : World) (e : Ending) (w' : World) : Prop :=
  ∃ r v zs, P r zs ∧ e = .returned (.tuple #[.int .i64 r, v]) ∧ OwnsI w' w.heap.size v zs ∧ w.grownBy w' (some g) ∧ Dr B g a len cap w'
def Drawn2 (r : Int) (zs : List Int) : Prop := 1 ≤ r ∧ r ≤ 3 ∧ WordOf r 8 zs
set_option maxHeartbeats 800000 in
theorem drawn_in {B g : Nat} {a : Option Addr} {len cap : Nat} {w : World} (h : Dr B g a len cap w) :
    Calls Try.prog 77 #[.pointer (some ⟨g, 0, none⟩)] w (RankIntsIn Drawn2 B g a len cap w) := by
  have hlt := h.lt
  have hb0 := grown_of_below ((Below.refl w.heap.size w).alloc (Nat.le_refl _) (.cells #[.int .i64 1, .int .i64 2, .int .i64 2, .int .i64 2, .int .i64 2, .int .i64 3] 3)) (some g)
  have hpick := pick_in (fun r => 1 ≤ r ∧ r ≤ 3) (h.alloc (.cells #[.int .i64 1, .int .i64 2, .int .i64 2, .int .i64 2, .int .i64 2, .int .i64 3] 3)) w.heap.size 6 (by omega) (by omega) (by omega) (pints_lit _ w [1, 2, 2, 2, 2, 3] _ rfl (by decide))
  replace h := hidI h
  replace hb0 := hidI hb0
  go_enter Try.func77, Try.ntmps77
  go_wp2_with fail
  refine hpick.mono ?_
  rintro e w1 ⟨r, ⟨hr1, hr3⟩, rfl, hg1, hd1⟩
  obtain ⟨n, rfl⟩ := Int.eq_ofNat_of_zero_le (show 0 ≤ r by omega)
  have hg := hidI (grown_trans hb0.out hg1)
  have hof := of_in hd1 n (by omega) (by omega) 8 8 rfl (by omega)
  replace hd1 := hidI hd1
  clear hpick hg1
  go_wp2_with fail
  refine hof.mono ?_
  rintro e w2 ⟨v, zs, hz, rfl, hown, hg2, hd2⟩
  have hr : RankIntsIn Drawn2 B g a len cap w (.returned (.tuple #[.int .i64 n, v])) w2 := ⟨_, v, zs, ⟨by omega, by omega, hz⟩, rfl, hown.mono hg.out.size, grown_trans hg.out hg2, hd2⟩
  replace hr := hidI hr
  clear hof hown hg2 hd2 hz
  go_wp2
  go_ret2
  exact hr.out
/-- Numbers of at most four, at most m of them. -/
def Small (m : Nat) (zs : List Int) : Prop := (∀ x ∈ zs, -4 ≤ x ∧ x ≤ 4) ∧ zs.length ≤ m
theorem Small.inR {m : Nat} {zs : List Int} (h : Small m zs) : InR zs := fun x hx => by have := h.1 x hx; omega
theorem Small.of_word {r : Int} {m : Nat} {zs : List Int} (h : WordOf r m zs) (hr : r ≤ 3) : Small m zs := ⟨fun x hx => by have := h.1 x hx; omega, h.2.2⟩
theorem Small.mono {m m' : Nat} {zs : List Int} (h : Small m zs) (hm : m ≤ m') : Small m' zs := ⟨h.1, by have := h.2; omega⟩
theorem Small.snoc {m : Nat} {zs : List Int} (h : Small m zs) {x : Int} (hx : -4 ≤ x ∧ x ≤ 4) : Small (m + 1) (zs ++ [x]) := by
  refine ⟨fun y hy => ?_, by have := h.2; simp; omega⟩
  rcases List.mem_append.1 hy with h1 | h1
  · exact h.1 y h1
  · rw [List.mem_singleton.1 h1]; exact hx
def AnyW (r : Int) (zs : List Int) : Prop := -1 ≤ r ∧ r ≤ 4 ∧ Small 9 zs
set_option maxHeartbeats 1600000 in
theorem any_in {B g : Nat} {a : Option Addr} {len cap : Nat} {w : World} (h : Dr B g a len cap w) :
    Calls Try.prog 56 #[.pointer (some ⟨g, 0, none⟩)] w (RankIntsIn AnyW B g a len cap w) := by
  have hlt := h.lt
  have hdrawn := drawn_in h
  replace h := hidI h
  go_enter Try.func56, Try.ntmps56
  go_wp2_with fail
  refine hdrawn.mono ?_
  rintro e w1 ⟨r, v, zs, ⟨hr1, hr3, hz⟩, rfl, hown1, hg1, hd1⟩
  have hsm := Small.of_word hz hr3
  have hbel := below_in hd1 10 10 rfl (by omega) (by omega)
  replace hown1 := hidI hown1
  replace hg1 := hidI hg1
  replace hd1 := hidI hd1
  replace hz := hidI hz
  replace hsm := hidI hsm
  clear hdrawn
  go_wp2_with fail
  refine hbel.mono ?_
  rintro e w2 ⟨d, ⟨hd0, hd9⟩, rfl, hg2', hd2⟩
  have hown2 := hidI (hown1.out.kept hg2' hlt)
  have hg2 := hidI (grown_trans hg1.out hg2')
  clear hbel hown1 hg1 hd1 hg2'
  have hs2 := hg2.out.size
  by_cases e0 : d = 0
  · subst e0
    have hpick := pick_in (fun r => -1 ≤ r ∧ r ≤ 4) (hd2.alloc (.cells #[.int .i64 (-1), .int .i64 0, .int .i64 4] 3)) w2.heap.size 3 (by omega) (by omega) (by have := hd2.lt; omega) (pints_lit _ w2 [-1, 0, 4] _ rfl (by decide))
    have hga := World.grownBy_alloc w2 (.cells #[.int .i64 (-1), .int .i64 0, .int .i64 4] 3) (some g)
    replace hd2 := hidI hd2
    replace hga := hidI hga
    go_wp2_with fail
    refine hpick.mono ?_
    rintro e w3 ⟨r', hr', rfl, hg3', hd3⟩
    have hg3 := grown_trans hga.out hg3'
    have hr : RankIntsIn AnyW B g a len cap w (.returned (.tuple #[.int .i64 r', v])) w3 := ⟨r', v, zs, ⟨hr'.1, hr'.2, hsm.out.mono (by omega)⟩, rfl, hown2.out.kept hg3 hlt, grown_trans hg2.out hg3, hd3⟩
    replace hr := hidI hr
    clear hpick hg3 hg3' hd3 hr' hga
    go_wp2
    go_ret2
    exact hr.out
  · have f0 : (d == 0) = false := by rw [beq_eq_false_iff_ne]; exact e0
    by_cases e1 : d = 1
    · subst e1
      have hpick := pick_in (fun r => -4 ≤ r ∧ r ≤ 4) (hd2.alloc (.cells #[.int .i64 0, .int .i64 4, .int .i64 (-4), .int .i64 1, .int .i64 (-1)] 3)) w2.heap.size 5 (by omega) (by omega) (by have := hd2.lt; omega) (pints_lit _ w2 [0, 4, -4, 1, -1] _ rfl (by decide))
      have hga := World.grownBy_alloc w2 (.cells #[.int .i64 0, .int .i64 4, .int .i64 (-4), .int .i64 1, .int .i64 (-1)] 3) (some g)
      replace hd2 := hidI hd2
      replace hga := hidI hga
      go_wp2_with fail
      refine hpick.mono ?_
      rintro e w3 ⟨x, hx, rfl, hg3', hd3⟩
      have hg3 := grown_trans hga.out hg3'
      have hown3 := hidI (hown2.out.kept hg3 hlt)
      have hgw3 := hidI (grown_trans hg2.out hg3)
      have hs3 := hgw3.out.size
      have hsm3 := hidI ((hsm.out.snoc hx).mono (show 8 + 1 ≤ 9 by omega))
      have hzl : zs.length ≤ 1000000000 := by have := hsm.out.2; omega
      replace hd3 := hidI hd3
      replace hx := hidI hx
      clear hpick hg3 hg3' hga hg2 hown2
      go_wp2_with (at_builtin; go_must (refine wpList_pushI rfl _ _ rfl w.heap.size _ zs x rfl rfl (by exact hown3.out) hzl hs3 ?_))
      intro v' w' hown' hb'
      have hr : RankIntsIn AnyW B g a len cap w (.returned (.tuple #[.int .i64 r, v'])) w' := ⟨r, v', _, ⟨by omega, by omega, hsm3.out⟩, rfl, hown', grown_below hgw3.out hb', hd3.out.over hb' hlt⟩
      replace hr := hidI hr
      clear hown' hb' hown3 hgw3 hs3 hd3
      go_wp2
      go_ret2
      exact hr.out
    · have f1 : (d == 1) = false := by rw [beq_eq_false_iff_ne]; exact e1
      have hr : RankIntsIn AnyW B g a len cap w (.returned (.tuple #[.int .i64 r, v])) w2 := ⟨r, v, zs, ⟨by omega, by omega, hsm.out.mono (by omega)⟩, rfl, hown2.out, hg2.out, hd2⟩
      replace hr := hidI hr
      clear e0 e1
      replace hd2 := hidI hd2
      go_wp2
      go_ret2
      exact hr.out
/-- What the drawers hand back: slices of ints that can be read. -/
def Words1 (P : List Int → Prop) (w : World) (e : Ending) (w' : World) : Prop :=
  ∃ v z, P z ∧ e = .returned v ∧ ReadI w'.heap.size w' v z ∧ Below w.heap.size w w'
def Words2 (P : List Int → Prop) (w : World) (e : Ending) (w' : World) : Prop :=
  ∃ v1 v2 z1 z2, P z1 ∧ P z2 ∧ e = .returned (.tuple #[v1, v2]) ∧ ReadI w'.heap.size w' v1 z1 ∧ ReadI w'.heap.size w' v2 z2 ∧ Below w.heap.size w w'
def RankWord1 (P : Int → List Int → Prop) (w : World) (e : Ending) (w' : World) : Prop :=
  ∃ r v z, P r z ∧ e = .returned (.tuple #[.int .i64 r, v]) ∧ ReadI w'.heap.size w' v z ∧ Below w.heap.size w w'
def WordRank1 (P : List Int → Int → Prop) (w : World) (e : Ending) (w' : World) : Prop :=
  ∃ v z r, P z r ∧ e = .returned (.tuple #[v, .int .i64 r]) ∧ ReadI w'.heap.size w' v z ∧ Below w.heap.size w w'
theorem new_in (w : World) (a : Option Addr) (len cap : Nat) (hcode : CodeIn w.heap.size w a len) :
    Calls Try.prog 55 #[.slice a len cap] w (fun e w' => ∃ g : Nat, e = .returned (.pointer (some ⟨g, 0, none⟩)) ∧ Below w.heap.size w w' ∧ Dr w.heap.size g a len cap w') :=
  (l1New_any w a len cap hcode).mono fun e w' ⟨g, he, hb, hc⟩ => ⟨g, he, hb, hc, hcode.below hb⟩
theorem small_row {w : World} {base m : Nat} {v : Value} {zs : List Int} (h : OwnsI w base v zs) (hz : Small m zs) (hm : m ≤ 1000) : ReadI w.heap.size w v zs := (h.row (by have := hz.2; omega)).read
set_option maxHeartbeats 800000 in
theorem two_any (w : World) (a : Option Addr) (len cap : Nat) (hcode : CodeIn w.heap.size w a len) :
    Calls Try.prog 53 #[.slice a len cap] w (Words2 (Small 9) w) := by
  have hnew := new_in w a len cap hcode
  replace hcode := hidI hcode
  go_enter Try.func53, Try.ntmps53
  go_wp2_with fail
  refine hnew.mono ?_
  rintro e w1 ⟨g, rfl, hb1, hd1⟩
  have hlt := hd1.lt
  have hany := any_in hd1
  replace hd1 := hidI hd1
  clear hnew
  go_wp2_with fail
  refine hany.mono ?_
  rintro e w2 ⟨r1, v1, z1, hz1, rfl, hown1, hg2, hd2⟩
  have hb2 := hb1.trans (hd1.out.below hg2)
  have hany2 := any_in hd2
  replace hown1 := hidI hown1
  replace hz1 := hidI hz1
  replace hd2 := hidI hd2
  clear hany hg2 hb1
  go_wp2_with fail
  refine hany2.mono ?_
  rintro e w3 ⟨r2, v2, z2, hz2, rfl, hown2, hg3, hd3⟩
  have hr : Words2 (Small 9) w (.returned (.tuple #[v1, v2])) w3 := ⟨v1, v2, z1, z2, hz1.out.2.2, hz2.2.2, rfl, small_row (hown1.out.kept hg3 hlt) hz1.out.2.2 (by omega), small_row hown2 hz2.2.2 (by omega), hb2.trans (hd2.out.below hg3)⟩
  replace hr := hidI hr
  clear hown1 hown2 hz1 hz2 hg3 hd3 hb2 hany2
  go_wp2
  go_ret2
  exact hr.out
theorem drawMul_any (w : World) (a : Option Addr) (len cap : Nat) (hcode : CodeIn w.heap.size w a len) :
    Calls Try.prog 16 #[.slice a len cap] w (Words2 (Small 9) w) := by
  have hcall := two_any w a len cap hcode
  replace hcode := hidI hcode
  go_enter Try.func16, Try.ntmps16
  go_wp2_with fail
  refine hcall.mono ?_
  rintro e w1 ⟨v1, v2, z1, z2, h1, h2, rfl, h3, h4, h5⟩
  have hr : Words2 (Small 9) w (.returned (.tuple #[v1, v2])) w1 := ⟨v1, v2, z1, z2, h1, h2, rfl, h3, h4, h5⟩
  replace hr := hidI hr
  clear h1 h2 h3 h4 h5 hcall
  go_wp2
  go_ret2
  exact hr.out
theorem drawCom_any (w : World) (a : Option Addr) (len cap : Nat) (hcode : CodeIn w.heap.size w a len) :
    Calls Try.prog 26 #[.slice a len cap] w (Words2 (Small 9) w) := by
  have hcall := two_any w a len cap hcode
  replace hcode := hidI hcode
  go_enter Try.func26, Try.ntmps26
  go_wp2_with fail
  refine hcall.mono ?_
  rintro e w1 ⟨v1, v2, z1, z2, h1, h2, rfl, h3, h4, h5⟩
  have hr : Words2 (Small 9) w (.returned (.tuple #[v1, v2])) w1 := ⟨v1, v2, z1, z2, h1, h2, rfl, h3, h4, h5⟩
  replace hr := hidI hr
  clear h1 h2 h3 h4 h5 hcall
  go_wp2
  go_ret2
  exact hr.out
theorem drawCon_any (w : World) (a : Option Addr) (len cap : Nat) (hcode : CodeIn w.heap.size w a len) :
    Calls Try.prog 27 #[.slice a len cap] w (Words2 (Small 9) w) := by
  have hcall := two_any w a len cap hcode
  replace hcode := hidI hcode
  go_enter Try.func27, Try.ntmps27
  go_wp2_with fail
  refine hcall.mono ?_
  rintro e w1 ⟨v1, v2, z1, z2, h1, h2, rfl, h3, h4, h5⟩
  have hr : Words2 (Small 9) w (.returned (.tuple #[v1, v2])) w1 := ⟨v1, v2, z1, z2, h1, h2, rfl, h3, h4, h5⟩
  replace hr := hidI hr
  clear h1 h2 h3 h4 h5 hcall
  go_wp2
  go_ret2
  exact hr.out
theorem drawInv_any (w : World) (a : Option Addr) (len cap : Nat) (hcode : CodeIn w.heap.size w a len) :
    Calls Try.prog 18 #[.slice a len cap] w (Words1 (Small 9) w) := by
  have hcall := two_any w a len cap hcode
  replace hcode := hidI hcode
  go_enter Try.func18, Try.ntmps18
  go_wp2_with fail
  refine hcall.mono ?_
  rintro e w1 ⟨v1, v2, z1, z2, h1, h2, rfl, h3, h4, h5⟩
  have hr : Words1 (Small 9) w (.returned v1) w1 := ⟨v1, z1, h1, rfl, h3, h5⟩
  replace hr := hidI hr
  clear h1 h2 h3 h4 h5 hcall
  go_wp2
  go_ret
  exact hr.out
theorem drawIs_any (w : World) (a : Option Addr) (len cap : Nat) (hcode : CodeIn w.heap.size w a len) :
    Calls Try.prog 28 #[.slice a len cap] w (RankWord1 AnyW w) := by
  have hnew := new_in w a len cap hcode
  replace hcode := hidI hcode
  go_enter Try.func28, Try.ntmps28
  go_wp2_with fail
  refine hnew.mono ?_
  rintro e w1 ⟨g, rfl, hb1, hd1⟩
  have hany := any_in hd1
  replace hd1 := hidI hd1
  clear hnew
  go_wp2_with fail
  refine hany.mono ?_
  rintro e w2 ⟨r1, v1, z1, hz1, rfl, hown1, hg2, hd2⟩
  have hr : RankWord1 AnyW w (.returned (.tuple #[.int .i64 r1, v1])) w2 := ⟨r1, v1, z1, hz1, rfl, small_row hown1 hz1.2.2 (by omega), hb1.trans (hd1.out.below hg2)⟩
  replace hr := hidI hr
  clear hany hz1 hown1 hg2 hd2
  go_wp2
  go_ret2
  exact hr.out
def PowK (z : List Int) (k : Int) : Prop := Small 9 z ∧ -25 ≤ k ∧ k ≤ 25
set_option maxHeartbeats 800000 in
theorem drawPow_any (w : World) (a : Option Addr) (len cap : Nat) (hcode : CodeIn w.heap.size w a len) :
    Calls Try.prog 23 #[.slice a len cap] w (WordRank1 PowK w) := by
  have hnew := new_in w a len cap hcode
  replace hcode := hidI hcode
  go_enter Try.func23, Try.ntmps23
  go_wp2_with fail
  refine hnew.mono ?_
  rintro e w1 ⟨g, rfl, hb1, hd1⟩
  have hlt := hd1.lt
  have hany := any_in hd1
  replace hd1 := hidI hd1
  clear hnew
  go_wp2_with fail
  refine hany.mono ?_
  rintro e w2 ⟨r1, v1, z1, hz1, rfl, hown1, hg2, hd2⟩
  have hb2 := hb1.trans (hd1.out.below hg2)
  obtain ⟨C, hC⟩ : ∃ C : Array Value, C = #[.int .i64 (-25), .int .i64 (-3), .int .i64 (-1), .int .i64 0, .int .i64 1, .int .i64 2, .int .i64 3, .int .i64 24, .int .i64 25] := ⟨_, rfl⟩
  have hpick := pick_in (fun r => -25 ≤ r ∧ r ≤ 25) (hd2.alloc (.cells C 3)) w2.heap.size 9 (by omega) (by omega) (by have := hd2.lt; omega) (pints_lit _ w2 [-25, -3, -1, 0, 1, 2, 3, 24, 25] _ hC (by decide))
  have hga := World.grownBy_alloc w2 (.cells C 3) (some g)
  have hda := hd2.alloc (.cells C 3)
  rw [hC] at hpick hga hda
  replace hga := hidI hga
  replace hd2 := hidI hd2
  replace hda := hidI hda
  replace hown1 := hidI hown1
  replace hz1 := hidI hz1
  clear hany hg2 hb1
  go_wp2_with fail
  refine hpick.mono ?_
  rintro e w3 ⟨k, hk, rfl, hg3', hd3⟩
  have hg3 := grown_trans hga.out hg3'
  have hr : WordRank1 PowK w (.returned (.tuple #[v1, .int .i64 k])) w3 := ⟨v1, z1, k, ⟨hz1.out.2.2, hk.1, hk.2⟩, rfl, small_row (hown1.out.kept hg3 hlt) hz1.out.2.2 (by omega), hb2.trans (hd2.out.below hg3)⟩
  replace hr := hidI hr
  clear hpick hg3 hg3' hd3 hk hb2
  go_wp2
  go_ret2
  exact hr.out
set_option maxHeartbeats 1600000 in
theorem drawRed_any (w : World) (a : Option Addr) (len cap : Nat) (hcode : CodeIn w.heap.size w a len) :
    Calls Try.prog 29 #[.slice a len cap] w (Words1 (Small 11) w) := by
  have hnew := new_in w a len cap hcode
  replace hcode := hidI hcode
  go_enter Try.func29, Try.ntmps29
  go_wp2_with fail
  refine hnew.mono ?_
  rintro e w1 ⟨g, rfl, hb1, hd1⟩
  have hlt := hd1.lt
  have hown1 := OwnsI.lit w1
  have hda := hd1.alloc (.cells #[] 3)
  have hba := hb1.alloc (by exact hb1.size) (.cells #[] 3)
  have hbel := below_in hda 12 12 rfl (by omega) (by omega)
  replace hown1 := hidI hown1
  replace hd1 := hidI hd1
  replace hda := hidI hda
  clear hnew hb1
  go_wp2_with fail
  refine hbel.mono ?_
  rintro e w2 ⟨n, ⟨hn0, hn1⟩, rfl, hg2, hd2⟩
  have hown2 := hidI (hown1.out.kept hg2 hlt)
  have hb2 := hba.trans (hda.out.below hg2)
  have hnn : n = ((n.toNat : Nat) : Int) := by omega
  have hnm : n.toNat ≤ 11 := by omega
  have hs2 : w1.heap.size ≤ w2.heap.size := by have := hg2.size; simp at this; omega
  replace hd2 := hidI hd2
  replace hnn := hidI hnn
  clear hbel hg2 hown1 hd1 hda hba
  go_wp2
  go_loopw [4, 5] (fun v nn wr => ∃ (k : Nat) (acc : List Int), acc.length + k ≤ 11 ∧ nn = .int .i64 (k : Int) ∧ Hid (OwnsI wr w1.heap.size v acc) ∧ Hid (Small 11 acc) ∧ Hid (Dr w.heap.size g a len cap wr) ∧ Hid (Below w.heap.size w wr) ∧ w1.heap.size ≤ wr.heap.size) (fun _ nn _ => (intOf nn).toNat)
  case atStart => exact ⟨n.toNat, [], by simpa using hnm, by rw [← hnn.out], hown2, hidI ⟨fun x h => by simp at h, by simp⟩, hd2, hidI hb2, hs2⟩
  case round =>
    clear hown2 hd2 hb2 hs2 hnn hnm hn0 hn1
    obtain ⟨k, acc, hk, rfl, hown, hsm, hd, hb, hs⟩ := hrel
    by_cases hk0 : 0 < k
    · go_wp2_with fail
      refine (below_in hd.out 5 5 rfl (by omega) (by omega)).mono ?_
      rintro e w3 ⟨x, ⟨hx0, hx1⟩, rfl, hg3, hd3⟩
      have hown3 := hidI (hown.out.kept hg3 hlt)
      have hb3 := hidI (hb.out.trans (hd.out.below hg3))
      have hs3 : w1.heap.size ≤ w3.heap.size := by have := hg3.size; omega
      have hkm : acc.length ≤ 1000000000 := by omega
      have hl2 : Hid (Small 11 (acc ++ [x - 2])) := hidI ⟨(Small.snoc (m := acc.length) ⟨hsm.out.1, Nat.le_refl _⟩ (x := x - 2) (by omega)).1, by simp; omega⟩
      have hw2 : w.heap.size ≤ w1.heap.size := by have := hd.out.1.1; omega
      replace hd3 := hidI hd3
      clear hg3 hown hd hb hs hsm
      go_wp2_with (at_builtin; go_must (refine wpList_pushI rfl _ _ rfl w1.heap.size _ acc (x - 2) rfl rfl (by exact hown3.out) hkm hs3 ?_))
      intro v' w' hown' hb'
      have hd' := hidI (hd3.out.over hb' hlt)
      have hbb := hidI (hb3.out.trans (hb'.mono hw2))
      have hs' : w1.heap.size ≤ w'.heap.size := by have := hb'.size; omega
      replace hown' := hidI hown'
      clear hb' hown3 hd3 hb3 hs3
      go_wp2
      go_roundw
      case rel => exact ⟨k - 1, acc ++ [x - 2], by simp; omega, by go_num, hown', hl2, hd', hbb, hs'⟩
      case measure => simp [intOf]; omega
    · obtain rfl : k = 0 := by omega
      go_wp2
      go_ret
      exact ⟨_, acc, hsm.out, rfl, small_row hown.out hsm.out (by omega), hb.out⟩
set_option maxHeartbeats 800000 in
theorem drawCmp_any (w : World) (a : Option Addr) (len cap : Nat) (hcode : CodeIn w.heap.size w a len) :
    Calls Try.prog 40 #[.slice a len cap] w (Words2 (Small 9) w) := by
  have hcall := two_any w a len cap hcode
  have hlen := hcode.1
  replace hcode := hidI hcode
  have hmod : (len : Int).tmod 4 = (len : Int) % 4 := Int.tmod_eq_emod_of_nonneg (by omega)
  go_enter Try.func40, Try.ntmps40
  go_wp2_with fail
  refine hcall.mono ?_
  rintro e w1 ⟨v1, v2, z1, z2, h1, h2, rfl, h3, h4, h5⟩
  by_cases hm : (len : Int) % 4 = 0
  · have hlit := hidI (OwnsI.lit w1)
    have hx := hidI (h3.below ((Below.refl w1.heap.size w1).alloc (Nat.le_refl _) (.cells #[] 3)))
    have hl3 : ([] : List Int).length + z1.length ≤ 1000000000 := by have := h1.2; simp; omega
    have hr0 : ∀ v' w', OwnsI w' w1.heap.size v' ([] ++ z1) → Below w1.heap.size (w1.alloc (.cells #[] 3)) w' → Words2 (Small 9) w (.returned (.tuple #[v1, v'])) w' := by
      intro v' w' ho hb
      have hb2 : Below w1.heap.size w1 w' := ((Below.refl w1.heap.size w1).alloc (Nat.le_refl _) (.cells #[] 3)).trans hb
      exact ⟨v1, v', z1, z1, h1, h1, rfl, (h3.below hb2).mono hb2.size, small_row (by simpa using ho) h1 (by omega), h5.trans (hb2.mono h5.size)⟩
    replace hr0 := hidI hr0
    replace h1 := hidI h1
    replace h2 := hidI h2
    replace h3 := hidI h3
    replace h4 := hidI h4
    replace h5 := hidI h5
    clear hcall
    go_wp2_with (at_builtin; go_must (refine wpList_pushAllI rfl _ _ rfl w1.heap.size _ _ [] z1 w1.heap.size rfl rfl (by exact hlit.out) (by exact hx.out) hl3 (by simp) ?_))
    intro v' w' hown' hb'
    have hr := hidI (hr0.out v' w' hown' hb')
    clear hown' hb' hlit hx hr0
    go_wp2
    go_ret2
    exact hr.out
  · have hr : Words2 (Small 9) w (.returned (.tuple #[v1, v2])) w1 := ⟨v1, v2, z1, z2, h1, h2, rfl, h3, h4, h5⟩
    replace hr := hidI hr
    replace h1 := hidI h1
    replace h2 := hidI h2
    replace h3 := hidI h3
    replace h4 := hidI h4
    replace h5 := hidI h5
    have hmf : (((len : Int) % 4) == 0) = false := by rw [beq_eq_false_iff_ne]; exact hm
    clear hcall hm
    go_wp2
    go_ret2
    exact hr.out
theorem drawEq_any (w : World) (a : Option Addr) (len cap : Nat) (hcode : CodeIn w.heap.size w a len) :
    Calls Try.prog 44 #[.slice a len cap] w (Words2 (Small 9) w) := by
  have hcall := drawCmp_any w a len cap hcode
  replace hcode := hidI hcode
  go_enter Try.func44, Try.ntmps44
  go_wp2_with fail
  refine hcall.mono ?_
  rintro e w1 ⟨v1, v2, z1, z2, h1, h2, rfl, h3, h4, h5⟩
  have hr : Words2 (Small 9) w (.returned (.tuple #[v1, v2])) w1 := ⟨v1, v2, z1, z2, h1, h2, rfl, h3, h4, h5⟩
  replace hr := hidI hr
  clear h1 h2 h3 h4 h5 hcall
  go_wp2
  go_ret2
  exact hr.out
end Go.Proofs.Ythjlemcnddkjgaa
