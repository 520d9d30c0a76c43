/- Drawn words (spec/l02_word.go): a rank and a word; the drawers of words. -/
import Derived.Test.YtcjkgknmpgehbaaDWa
namespace Go.Proofs.Ytcjkgknmpgehbaa
open Go.RowKit
set_option linter.unusedVariables false

/-- A rank and a slice of ints with P come back; the cursor has moved. -/
def RankIntsIn (P : Int → List Int → Prop) (B g : Nat) (a : Option Addr) (len cap : Nat) (w : World) (e : Ending) (w' : World) : Prop :=
  ∃ r v zs, P r zs ∧ e = .returned (.tuple #[.int .i64 r, v]) ∧ OwnsI w' w.heap.size v zs ∧ w.grownBy w' (some g) ∧ Dr B g a len cap w'
def Drawn2 (r : Int) (zs : List Int) : Prop := 1 ≤ r ∧ r ≤ 3 ∧ WordOf r 8 zs
set_option maxHeartbeats 800000 in
theorem drawn_in {B g : Nat} {a : Option Addr} {len cap : Nat} {w : World} (h : Dr B g a len cap w) :
    Calls Try.prog 68 #[.pointer (some ⟨g, 0, none⟩)] w (RankIntsIn Drawn2 B g a len cap w) := by
  have hlt := h.lt
  have hb0 := grown_of_below ((Below.refl w.heap.size w).alloc (Nat.le_refl _) (.cells #[.int .i64 1, .int .i64 2, .int .i64 2, .int .i64 2, .int .i64 2, .int .i64 3] 3)) (some g)
  have hpick := pick_in (fun r => 1 ≤ r ∧ r ≤ 3) (h.alloc (.cells #[.int .i64 1, .int .i64 2, .int .i64 2, .int .i64 2, .int .i64 2, .int .i64 3] 3)) w.heap.size 6 (by omega) (by omega) (by omega) (pints_lit _ w [1, 2, 2, 2, 2, 3] _ rfl (by decide))
  replace h := hidI h
  replace hb0 := hidI hb0
  go_enter Try.func68, Try.ntmps68
  go_wp2_with fail
  refine hpick.mono ?_
  rintro e w1 ⟨r, ⟨hr1, hr3⟩, rfl, hg1, hd1⟩
  obtain ⟨n, rfl⟩ := Int.eq_ofNat_of_zero_le (show 0 ≤ r by omega)
  have hg := hidI (grown_trans hb0.out hg1)
  have hof := of_in hd1 n (by omega) (by omega) 8 8 rfl (by omega)
  replace hd1 := hidI hd1
  clear hpick hg1
  go_wp2_with fail
  refine hof.mono ?_
  rintro e w2 ⟨v, zs, hz, rfl, hown, hg2, hd2⟩
  have hr : RankIntsIn Drawn2 B g a len cap w (.returned (.tuple #[.int .i64 n, v])) w2 := ⟨_, v, zs, ⟨by omega, by omega, hz⟩, rfl, hown.mono hg.out.size, grown_trans hg.out hg2, hd2⟩
  replace hr := hidI hr
  clear hof hown hg2 hd2 hz
  go_wp2
  go_ret2
  exact hr.out
/-- Numbers of at most four, at most m of them. -/
def Small (m : Nat) (zs : List Int) : Prop := (∀ x ∈ zs, -4 ≤ x ∧ x ≤ 4) ∧ zs.length ≤ m
theorem Small.inR {m : Nat} {zs : List Int} (h : Small m zs) : InR zs := fun x hx => by have := h.1 x hx; omega
theorem Small.of_word {r : Int} {m : Nat} {zs : List Int} (h : WordOf r m zs) (hr : r ≤ 3) : Small m zs := ⟨fun x hx => by have := h.1 x hx; omega, h.2.2⟩
theorem Small.mono {m m' : Nat} {zs : List Int} (h : Small m zs) (hm : m ≤ m') : Small m' zs := ⟨h.1, by have := h.2; omega⟩
theorem Small.snoc {m : Nat} {zs : List Int} (h : Small m zs) {x : Int} (hx : -4 ≤ x ∧ x ≤ 4) : Small (m + 1) (zs ++ [x]) := by
  refine ⟨fun y hy => ?_, by have := h.2; simp; omega⟩
  rcases List.mem_append.1 hy with h1 | h1
  · exact h.1 y h1
  · rw [List.mem_singleton.1 h1]; exact hx
def AnyW (r : Int) (zs : List Int) : Prop := -1 ≤ r ∧ r ≤ 4 ∧ Small 9 zs
/-- What the drawers hand back: slices of ints that can be read. -/
def Words1 (P : List Int → Prop) (w : World) (e : Ending) (w' : World) : Prop :=
  ∃ v z, P z ∧ e = .returned v ∧ ReadI w'.heap.size w' v z ∧ Below w.heap.size w w'
def Words2 (P : List Int → Prop) (w : World) (e : Ending) (w' : World) : Prop :=
  ∃ v1 v2 z1 z2, P z1 ∧ P z2 ∧ e = .returned (.tuple #[v1, v2]) ∧ ReadI w'.heap.size w' v1 z1 ∧ ReadI w'.heap.size w' v2 z2 ∧ Below w.heap.size w w'
def RankWord1 (P : Int → List Int → Prop) (w : World) (e : Ending) (w' : World) : Prop :=
  ∃ r v z, P r z ∧ e = .returned (.tuple #[.int .i64 r, v]) ∧ ReadI w'.heap.size w' v z ∧ Below w.heap.size w w'
def WordRank1 (P : List Int → Int → Prop) (w : World) (e : Ending) (w' : World) : Prop :=
  ∃ v z r, P z r ∧ e = .returned (.tuple #[v, .int .i64 r]) ∧ ReadI w'.heap.size w' v z ∧ Below w.heap.size w w'
theorem new_in (w : World) (a : Option Addr) (len cap : Nat) (hcode : CodeIn w.heap.size w a len) :
    Calls Try.prog 50 #[.slice a len cap] w (fun e w' => ∃ g : Nat, e = .returned (.pointer (some ⟨g, 0, none⟩)) ∧ Below w.heap.size w w' ∧ Dr w.heap.size g a len cap w') :=
  (l1New_any w a len cap hcode).mono fun e w' ⟨g, he, hb, hc⟩ => ⟨g, he, hb, hc, hcode.below hb⟩
theorem small_row {w : World} {base m : Nat} {v : Value} {zs : List Int} (h : OwnsI w base v zs) (hz : Small m zs) (hm : m ≤ 1000) : ReadI w.heap.size w v zs := (h.row (by have := hz.2; omega)).read
def PowK (z : List Int) (k : Int) : Prop := Small 9 z ∧ -25 ≤ k ∧ k ≤ 25
end Go.Proofs.Ytcjkgknmpgehbaa
