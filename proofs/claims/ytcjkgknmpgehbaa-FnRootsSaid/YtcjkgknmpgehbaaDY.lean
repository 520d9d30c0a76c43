/- Drawn cyclic words (spec/l03_cyclic.go). -/
import Derived.Test.YtcjkgknmpgehbaaDWb
import Derived.Test.YtcjkgknmpgehbaaWY5
import Derived.Test.YtcjkgknmpgehbaaWS5
namespace Go.Proofs.Ytcjkgknmpgehbaa
open Go.RowKit
set_option linter.unusedVariables false

theorem Lets.append {r : Int} {a b : List Int} (ha : Lets r a) (hb : Lets r b) : Lets r (a ++ b) := by
  intro x hx
  rcases List.mem_append.1 hx with h | h
  · exact ha x h
  · exact hb x h
theorem Lets.inv {r : Int} {a : List Int} (ha : Lets r a) (hr : r ≤ 1000) : Lets r (invL a) := by
  intro x hx
  obtain ⟨y, hy, rfl⟩ := List.mem_map.1 (List.mem_reverse.1 hx)
  have := ha y hy
  rw [ng_of (by omega) (by omega)]
  omega
theorem Lets.mul {r : Int} {a b : List Int} (ha : Lets r a) (hb : Lets r b) (hr : r ≤ 1000) : Lets r (mulL a b) := (ha.append hb).red hr
theorem Lets.rep {r : Int} {a : List Int} (ha : Lets r a) (k : Nat) : Lets r (rep a k) := by
  induction k with
  | zero => exact Lets.nil r
  | succ k ih => exact ih.append ha
theorem Lets.pow {r : Int} {a : List Int} (ha : Lets r a) (hr : r ≤ 1000) (k : Int) : Lets r (powL a k) := by
  unfold powL
  split
  · exact Lets.nil r
  · split
    · exact ((ha.inv hr).rep _).red hr
    · exact (ha.rep _).red hr
theorem Lets.mono {r r' : Int} {a : List Int} (ha : Lets r a) (h : r ≤ r') : Lets r' a := fun x hx => by have := ha x hx; omega
theorem Lets.take {r : Int} {a : List Int} (ha : Lets r a) (k : Nat) : Lets r (a.take k) := fun x hx => ha x (List.mem_of_mem_take hx)
theorem Lets.mid {r : Int} {a : List Int} (ha : Lets r a) : Lets r (mid a) := fun y hy => ha y (List.mem_of_mem_drop (List.mem_of_mem_take hy))
theorem Lets.getD {r : Int} {a : List Int} (ha : Lets r a) {i : Nat} (hi : i < a.length) : a.getD i 0 ≠ 0 ∧ -r ≤ a.getD i 0 ∧ a.getD i 0 ≤ r := by
  apply ha
  rw [List.getD_eq_getElem?_getD, List.getElem?_eq_getElem hi]
  exact List.getElem_mem hi
theorem Lets.coreF {r : Int} : ∀ (f : Nat) {x p : List Int}, Lets r x → Lets r p → Lets r (coreF f x p).1 ∧ Lets r (coreF f x p).2 := by
  intro f
  induction f with
  | zero => intro x p hx hp; exact ⟨hx, hp⟩
  | succ f ih =>
    intro x p hx hp
    cases h : sc x with
    | true =>
      rw [coreF_yes h]
      have hl : 0 < x.length := by unfold sc at h; rw [decide_eq_true_eq] at h; omega
      exact ih hx.mid (hp.snoc (hx.getD hl))
    | false => rw [coreF_no h]; exact ⟨hx, hp⟩
theorem Lets.core {r : Int} {w : List Int} (h : Lets r w) (hr : r ≤ 1000) : Lets r (coreL w).1 ∧ Lets r (coreL w).2 := Lets.coreF _ (h.red hr) (Lets.nil r)
theorem Lets.root {r : Int} {w : List Int} (h : Lets r w) (hr : r ≤ 1000) : Lets r (rootL w).1 := by
  unfold rootL
  split
  · exact Lets.nil r
  · exact (((h.core hr).2.mul ((h.core hr).1.take _) hr).mul ((h.core hr).2.inv hr) hr)
theorem rootL_length (w : List Int) : (rootL w).1.length ≤ 3 * w.length := by
  have h := coreL_length w
  unfold rootL
  split
  · simp
  · have h1 := mulL_length (mulL (coreL w).2 ((coreL w).1.take (rootOf w))) (invL (coreL w).2)
    have h2 := mulL_length (coreL w).2 ((coreL w).1.take (rootOf w))
    rw [invL_length] at h1
    rw [List.length_take] at h2
    show (mulL _ _).length ≤ _
    omega
/-- Letters up to five and their inverses, at most m. -/
def Cyc (m : Nat) (zs : List Int) : Prop := Lets 5 zs ∧ zs.length ≤ m
theorem Cyc.inR {m : Nat} {zs : List Int} (h : Cyc m zs) : InR zs := h.1.inR (by omega)
theorem Cyc.mono {m m' : Nat} {zs : List Int} (h : Cyc m zs) (hm : m ≤ m') : Cyc m' zs := ⟨h.1, by have := h.2; omega⟩
theorem powL_len2 (zs : List Int) (k : Int) (n : Nat) (hk : -(n : Int) ≤ k ∧ k ≤ (n : Int)) : (powL zs k).length ≤ n * zs.length := by
  unfold powL
  split
  · simp
  · have hkn : k.natAbs ≤ n := by omega
    have h1 := redL_length (rep (invL zs) k.natAbs)
    have h2 := redL_length (rep zs k.natAbs)
    rw [rep_length] at h1 h2
    rw [invL_length] at h1
    have h3 : k.natAbs * zs.length ≤ n * zs.length := Nat.mul_le_mul_right _ hkn
    split <;> omega
/-- A slice of ints with P comes back, in blocks of the call's own; the cursor has moved. -/
def RowIn (P : List Int → Prop) (B g : Nat) (a : Option Addr) (len cap : Nat) (w : World) (e : Ending) (w' : World) : Prop :=
  ∃ v zs, P zs ∧ e = .returned v ∧ RowI w' w.heap.size w'.heap.size v zs ∧ w.grownBy w' (some g) ∧ Dr B g a len cap w'
theorem RowI.over {w w' : World} {lo g : Nat} {v : Value} {zs : List Int} (h : RowI w lo w.heap.size v zs) (hg : w.grownBy w' (some g)) (hlt : g < lo) : RowI w' lo w'.heap.size v zs :=
  (h.grown hg (Nat.le_refl _) (.inl hlt)).wide (Nat.le_refl _) hg.size
set_option maxHeartbeats 3200000 in
theorem word3_in {B g : Nat} {a : Option Addr} {len cap : Nat} {w : World} (h : Dr B g a len cap w) :
    Calls Try.prog 49 #[.pointer (some ⟨g, 0, none⟩)] w (RowIn (Cyc 20) B g a len cap w) := by
  have hlt := h.lt
  have hdrawn := drawn_in h
  replace h := hidI h
  go_enter Try.func49, Try.ntmps49
  go_wp2_with fail
  refine hdrawn.mono ?_
  rintro e w1 ⟨r, v, zs, ⟨hr1, hr3, hz⟩, rfl, hown1, hg1, hd1⟩
  have hcy : Cyc 8 zs := ⟨hz.1.mono (by omega), hz.2.2⟩
  have hbel := below_in hd1 4 4 rfl (by omega) (by omega)
  replace hown1 := hidI hown1
  replace hg1 := hidI hg1
  replace hd1 := hidI hd1
  replace hz := hidI hz
  replace hcy := hidI hcy
  clear hdrawn
  go_wp2_with fail
  refine hbel.mono ?_
  rintro e w2 ⟨d, ⟨hd0, hd3⟩, rfl, hg2', hd2⟩
  have hown2 := hidI (hown1.out.kept hg2' hlt)
  have hg2 := hidI (grown_trans hg1.out hg2')
  clear hbel hown1 hg1 hd1 hg2'
  have hs2 := hg2.out.size
  by_cases e0 : d = 0
  · subst e0
    have hof := of_in hd2 2 (by omega) (by omega) 3 3 rfl (by omega)
    replace hd2 := hidI hd2
    go_wp2_with fail
    refine hof.mono ?_
    rintro e w3 ⟨v3, z3, hz3, rfl, hown3, hg3', hd3⟩
    have hg3 := hidI (grown_trans hg2.out hg3')
    have hbel := below_in hd3 3 3 rfl (by omega) (by omega)
    have hlt2 : g < w2.heap.size := hd2.out.lt
    replace hown3 := hidI hown3
    replace hd3 := hidI hd3
    clear hof hg3' hg2 hown2
    go_wp2_with fail
    refine hbel.mono ?_
    rintro e w4 ⟨k, ⟨hk0, hk2⟩, rfl, hg4', hd4⟩
    have hg4 := hidI (grown_trans hg3.out hg4')
    have hown4 := hown3.out.kept hg4' hlt2
    have hz3l : z3.length ≤ 3 := hz3.2.2
    have hpow := specPowAny w4 v3 z3 (1 + k) ((hown4.row (by omega)).read) (by omega) (by omega) (by omega)
    have hpc : Cyc 20 (powL z3 (1 + k)) := ⟨(hz3.1.mono (by omega)).pow (by omega) _, by have := powL_len2 z3 (1 + k) 3 (by omega); omega⟩
    replace hd4 := hidI hd4
    replace hpc := hidI hpc
    clear hbel hg4' hg3 hd3 hown3 hown4
    go_wp2_with fail
    refine hpow.mono ?_
    rintro e w5 ⟨v5, rfl, hr5, hb5⟩
    have hr : RowIn (Cyc 20) B g a len cap w (.returned v5) w5 := ⟨v5, _, hpc.out, rfl, hr5.wide hg4.out.size (Nat.le_refl _), grown_below hg4.out (hb5.mono hg4.out.size), hd4.out.over hb5 hd4.out.lt⟩
    replace hr := hidI hr
    clear hpow hr5 hb5
    go_wp2
    go_ret
    exact hr.out
  · have f0 : (d == 0) = false := by rw [beq_eq_false_iff_ne]; exact e0
    by_cases e1 : d = 1
    · subst e1
      have hof := of_in hd2 2 (by omega) (by omega) 2 2 rfl (by omega)
      replace hd2 := hidI hd2
      go_wp2_with fail
      refine hof.mono ?_
      rintro e w3 ⟨v3, z3, hz3, rfl, hown3, hg3', hd3⟩
      have hg3 := hidI (grown_trans hg2.out hg3')
      have hbel := below_in hd3 3 3 rfl (by omega) (by omega)
      have hlt2 : g < w2.heap.size := hd2.out.lt
      replace hown3 := hidI hown3
      replace hd3 := hidI hd3
      clear hof hg3' hg2 hown2
      go_wp2_with fail
      refine hbel.mono ?_
      rintro e w4 ⟨k, ⟨hk0, hk2⟩, rfl, hg4', hd4⟩
      have hg4 := hidI (grown_trans hg3.out hg4')
      have hown4 := hown3.out.kept hg4' hlt2
      have hz3l : z3.length ≤ 2 := hz3.2.2
      have hpow := specPowAny w4 v3 z3 (1 + k) ((hown4.row (by omega)).read) (by omega) (by omega) (by omega)
      have hpc : Cyc 6 (powL z3 (1 + k)) := ⟨(hz3.1.mono (by omega)).pow (by omega) _, by have := powL_len2 z3 (1 + k) 3 (by omega); omega⟩
      obtain ⟨pz, hpz⟩ : ∃ pz, pz = powL z3 (1 + k) := ⟨_, rfl⟩
      rw [← hpz] at hpow hpc
      replace hd4 := hidI hd4
      replace hpc := hidI hpc
      replace hpz := hidI hpz
      clear hbel hg4' hg3 hd3 hown3 hown4
      go_wp2_with fail
      refine hpow.mono ?_
      rintro e w5 ⟨v5, rfl, hr5, hb5⟩
      have hs4 := hg4.out.size
      have hg5 := hidI (grown_below hg4.out (hb5.mono hs4))
      have hd5 := hd4.out.over hb5 hd4.out.lt
      have hlt4 : g < w4.heap.size := hd4.out.lt
      have hof2 := of_in hd5 2 (by omega) (by omega) 3 3 rfl (by omega)
      replace hr5 := hidI hr5
      replace hd5 := hidI hd5
      clear hpow hb5 hg4 hd4
      go_wp2_with fail
      refine hof2.mono ?_
      rintro e w6 ⟨v6, z6, hz6, rfl, hown6, hg6', hd6⟩
      have hg6 := hidI (grown_trans hg5.out hg6')
      have hr6 := (hr5.out.over hg6' hlt4)
      have hs5 := hg5.out.size
      have hpl : pz.length ≤ 6 := hpc.out.2
      have hz6l : z6.length ≤ 3 := hz6.2.2
      have hcon := specCon w6 v5 v6 pz z6 hr6.read ((hown6.row (by omega)).read) (by omega) (by omega)
      have hcc : Cyc 20 (conL pz z6) := ⟨by unfold conL; exact (((hz6.1.mono (by omega)).inv (by omega)).mul hpc.out.1 (by omega)).mul (hz6.1.mono (by omega)) (by omega), by
        have h1 := mulL_length (invL z6) pz
        have h2 := mulL_length (mulL (invL z6) pz) z6
        have h3 := invL_length z6
        unfold conL
        omega⟩
      replace hd6 := hidI hd6
      replace hcc := hidI hcc
      clear hof2 hg6' hg5 hd5 hr5 hr6 hown6
      go_wp2_with fail
      refine hcon.mono ?_
      rintro e w7 ⟨v7, rfl, hr7, hb7⟩
      have hr : RowIn (Cyc 20) B g a len cap w (.returned v7) w7 := ⟨v7, _, hcc.out, rfl, hr7.wide hg6.out.size (Nat.le_refl _), grown_below hg6.out (hb7.mono hg6.out.size), hd6.out.over hb7 hd6.out.lt⟩
      replace hr := hidI hr
      clear hcon hr7 hb7
      go_wp2
      go_ret
      exact hr.out
    · have f1 : (d == 1) = false := by rw [beq_eq_false_iff_ne]; exact e1
      have honce := once_in hd2 12 12 rfl (by omega) (by omega)
      replace hd2 := hidI hd2
      replace e0 := hidI e0
      replace e1 := hidI e1
      go_wp2_with fail
      refine honce.mono ?_
      rintro e w3 ⟨b, rfl, hg3', hd3⟩
      have hg3 := hidI (grown_trans hg2.out hg3')
      have hown3 := hidI (hown2.out.kept hg3' hlt)
      have hs3 := hg3.out.size
      clear honce hg3' hg2 hown2
      cases b with
      | true =>
        have hpick := pick_in (fun r => r ≠ 0 ∧ -5 ≤ r ∧ r ≤ 5) (hd3.alloc (.cells #[.int .i64 5, .int .i64 (-5)] 3)) w3.heap.size 2 (by omega) (by omega) (by have := hd3.lt; omega) (pints_lit _ w3 [5, -5] _ rfl (by decide))
        have hga := World.grownBy_alloc w3 (.cells #[.int .i64 5, .int .i64 (-5)] 3) (some g)
        replace hd3 := hidI hd3
        replace hga := hidI hga
        go_wp2_with fail
        refine hpick.mono ?_
        rintro e w4 ⟨x, hx, rfl, hg4', hd4⟩
        have hg4'' := grown_trans hga.out hg4'
        have hown4 := hidI (hown3.out.kept hg4'' hlt)
        have hgw4 := hidI (grown_trans hg3.out hg4'')
        have hs4 := hgw4.out.size
        have hcy4 : Cyc 20 (zs ++ [x]) := ⟨hcy.out.1.snoc hx, by have := hcy.out.2; simp; omega⟩
        have hzl : zs.length ≤ 1000000000 := by have := hcy.out.2; omega
        replace hd4 := hidI hd4
        replace hcy4 := hidI hcy4
        clear hpick hg4' hg4'' hga hg3 hown3 hx
        go_wp2_with (at_builtin; go_must (refine wpList_pushI rfl _ _ rfl w.heap.size _ zs x rfl rfl (by exact hown4.out) hzl hs4 ?_))
        intro v' w' hown' hb'
        have hr : RowIn (Cyc 20) B g a len cap w (.returned v') w' := ⟨v', _, hcy4.out, rfl, hown'.row (by have := hcy4.out.2; omega), grown_below hgw4.out hb', hd4.out.over hb' hlt⟩
        replace hr := hidI hr
        clear hown' hb' hown4 hgw4 hs4 hd4
        go_wp2
        go_ret
        exact hr.out
      | false =>
        have hr : RowIn (Cyc 20) B g a len cap w (.returned v) w3 := ⟨v, zs, hcy.out.mono (by omega), rfl, hown3.out.row (by have := hcy.out.2; omega), hg3.out, hd3⟩
        replace hr := hidI hr
        clear hd3
        go_wp2
        go_ret
        exact hr.out
end Go.Proofs.Ytcjkgknmpgehbaa
