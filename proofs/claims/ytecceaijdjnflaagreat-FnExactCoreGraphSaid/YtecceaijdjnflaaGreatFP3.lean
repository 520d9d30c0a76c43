/- Connected vertices, the program: ReachedFrom. -/
import Derived.Test.YtecceaijdjnflaaGreatFP2
import Derived.Test.YtecceaijdjnflaaGreatQE
import Derived.Deep.RegionHeld3
import Derived.Deep.Cut
namespace Go.Proofs.YtecceaijdjnflaaGreat
open Go.RowKit
set_option linter.unusedVariables false
set_option linter.unusedSimpArgs false

/-- Block G is an array of 40 bools that marks the members of L. -/
def BoolsAt (w : World) (G : Nat) (L : List Int) : Prop :=
  ∃ cur : Array Value, w.heap[G]? = some (.cells cur 80 (0, 0)) ∧ cur.size = 40 ∧ ∀ u : Nat, u < 40 → cur[u]? = some (.bool (decide ((u : Int) ∈ L)))
theorem BoolsAt.cell {w : World} {G : Nat} {L : List Int} (h : BoolsAt w G L) (u : Nat) (hu : u < 40) : w.cell? ⟨G, u, none⟩ = some (.bool (decide ((u : Int) ∈ L))) := by
  obtain ⟨cur, hh, hs, hc⟩ := h
  have := cell_of_heap hh u
  rw [this]; exact hc u hu
theorem BoolsAt.frozen {w : World} {G : Nat} {L : List Int} (h : BoolsAt w G L) (u : Nat) : w.frozen? ⟨G, u, none⟩ = false := by
  obtain ⟨cur, hh, hs, hc⟩ := h
  exact frozen_of_row w G u cur _ hh
theorem BoolsAt.lt {w : World} {G : Nat} {L : List Int} (h : BoolsAt w G L) : G < w.heap.size := by
  obtain ⟨cur, hh, hs, hc⟩ := h
  exact (Array.getElem?_eq_some_iff.1 hh).1
theorem BoolsAt.below {w w' : World} {B G : Nat} {L : List Int} (h : BoolsAt w G L) (hb : Below B w w') (hlt : G < B) : BoolsAt w' G L := by
  obtain ⟨cur, hh, hs, hc⟩ := h
  exact ⟨cur, by rw [hb.block G hlt]; exact hh, hs, hc⟩
theorem BoolsAt.set {w : World} {G : Nat} {L L' : List Int} (h : BoolsAt w G L) (x : Nat) (hx : x < 40) (hL : ∀ u : Nat, u < 40 → ((u : Int) ∈ L' ↔ (u : Int) ∈ L ∨ u = x)) : BoolsAt (w.setCell ⟨G, x, none⟩ (.bool true)) G L' := by
  obtain ⟨cur, hh, hs, hc⟩ := h
  refine ⟨cur.setIfInBounds x (.bool true), heap_setCell_same w G x cur _ _ hh, by simpa using hs, fun u hu => ?_⟩
  by_cases hux : u = x
  · subst hux
    rw [Array.getElem?_setIfInBounds_self_of_lt (by omega)]
    rw [decide_eq_true ((hL u hu).2 (.inr rfl))]
  · rw [Array.getElem?_setIfInBounds_ne (by omega), hc u hu]
    have := hL u hu
    by_cases hm : (u : Int) ∈ L
    · rw [decide_eq_true hm, decide_eq_true (this.2 (.inl hm))]
    · rw [decide_eq_false hm, decide_eq_false (fun h => by rcases this.1 h with h | h <;> contradiction)]
theorem BoolsAt.same {w : World} {G : Nat} {L L' : List Int} (h : BoolsAt w G L) (hL : ∀ u : Nat, u < 40 → ((u : Int) ∈ L' ↔ (u : Int) ∈ L)) : BoolsAt w G L' := by
  obtain ⟨cur, hh, hs, hc⟩ := h
  refine ⟨cur, hh, hs, fun u hu => ?_⟩
  rw [hc u hu]
  by_cases hm : (u : Int) ∈ L
  · rw [decide_eq_true hm, decide_eq_true ((hL u hu).2 hm)]
  · rw [decide_eq_false hm, decide_eq_false (fun h => hm ((hL u hu).1 h))]
theorem BoolsAt.fresh (w : World) (x : Nat) (hx : x < 40) : BoolsAt (w.alloc (.cells ((List.replicate 40 (Value.bool false)).set x (.bool true)).toArray 80)) w.heap.size [(x : Int)] := by
  refine ⟨_, heap_alloc_new _ _, by simp, fun u hu => ?_⟩
  rw [List.getElem?_toArray, List.getElem?_set]
  by_cases hux : x = u
  · subst hux
    simp [hx]
  · rw [if_neg hux]
    have hd : decide ((u : Int) ∈ [(x : Int)]) = false := by rw [decide_eq_false_iff_not, List.mem_singleton]; omega
    rw [hd, List.getElem?_replicate, if_pos hu]
theorem BoolsAt.none40 (w : World) : BoolsAt (w.alloc (.cells #[.bool false, .bool false, .bool false, .bool false, .bool false, .bool false, .bool false, .bool false, .bool false, .bool false, .bool false, .bool false, .bool false, .bool false, .bool false, .bool false, .bool false, .bool false, .bool false, .bool false, .bool false, .bool false, .bool false, .bool false, .bool false, .bool false, .bool false, .bool false, .bool false, .bool false, .bool false, .bool false, .bool false, .bool false, .bool false, .bool false, .bool false, .bool false, .bool false, .bool false] 80)) w.heap.size [] := by
  refine ⟨_, heap_alloc_new _ _, rfl, fun u hu => ?_⟩
  show (Array.replicate 40 (Value.bool false))[u]? = _
  rw [Array.getElem?_replicate, if_pos hu]
  rfl
theorem touch_ft {L : List Int} {fN tN u : Nat} {l : Int} (hor : (fN : Int) ∈ L ∨ (tN : Int) ∈ L) : (u : Int) ∈ touchE L ((fN : Int), l, (tN : Int)) ↔ (u : Int) ∈ (fN : Int) :: L ∨ u = tN := by
  rw [mem_touchE, List.mem_cons]
  constructor
  · rintro (h | ⟨_, h | h⟩)
    · exact .inl (.inr h)
    · exact .inl (.inl h)
    · exact .inr (Int.ofNat.inj h)
  · rintro ((h | h) | h)
    · exact .inr ⟨hor, .inl h⟩
    · exact .inl h
    · exact .inr ⟨hor, .inr (by rw [h])⟩
theorem touch_tf {L : List Int} {fN tN u : Nat} {l : Int} (hor : (fN : Int) ∈ L ∨ (tN : Int) ∈ L) : (u : Int) ∈ touchE L ((fN : Int), l, (tN : Int)) ↔ (u : Int) ∈ (tN : Int) :: L ∨ u = fN := by
  rw [mem_touchE, List.mem_cons]
  constructor
  · rintro (h | ⟨_, h | h⟩)
    · exact .inl (.inr h)
    · exact .inr (Int.ofNat.inj h)
    · exact .inl (.inl h)
  · rintro ((h | h) | h)
    · exact .inr ⟨hor, .inr h⟩
    · exact .inl h
    · exact .inr ⟨hor, .inl (by rw [h])⟩
theorem cons_set {L : List Int} {x u : Nat} : (u : Int) ∈ (x : Int) :: L ↔ (u : Int) ∈ L ∨ u = x := by
  rw [List.mem_cons]
  constructor
  · rintro (h | h)
    · exact .inr (Int.ofNat.inj h)
    · exact .inl h
  · rintro (h | h)
    · exact .inr h
    · exact .inl (by rw [h])
theorem setCell_cell {w : World} {G x b j : Nat} {v u : Value} (h : w.cell? ⟨b, j, none⟩ = some u) (hb : b ≠ G) : (w.setCell ⟨G, x, none⟩ v).cell? ⟨b, j, none⟩ = some u :=
  (World.cell?_of_block (heap_setCell_other w ⟨G, x, none⟩ b v hb)).trans h
theorem setCell_size (w : World) (p : Addr) (v : Value) : (w.setCell p v).heap.size = w.heap.size := by simp [World.setCell]
theorem below_setB {w : World} {B G x : Nat} {v : Value} (hB : B ≤ G) : Below B w (w.setCell ⟨G, x, none⟩ v) := (Below.refl B w).setCell (p := ⟨G, x, none⟩) hB v
set_option maxRecDepth 100000 in
set_option maxHeartbeats 3200000 in
theorem progReach (w : World) (r s : Int) (v : Value) (es : List Ed) (x : Int) (h : ReadE w.heap.size w v es) (hl : es.length ≤ 10000000) :
    Calls Tryz.prog 32 #[.agg #[.int .i64 r, .int .i64 s, v], .int .i64 x] w (IntsRet w (reachG r s es x)) := by
  obtain ⟨a, cap, rfl, hnc⟩ := h.form
  obtain ⟨n, hn⟩ : ∃ n, n = es.length := ⟨_, rfl⟩
  rw [← hn] at hl hnc ⊢
  rw [← hn] at h
  obtain ⟨w1, hw1⟩ : ∃ w1, w1 = w.alloc (.cells #[.int .i64 r, .int .i64 s, .slice a n cap] 28) := ⟨_, rfl⟩
  have hb1 : Below w.heap.size w w1 := by rw [hw1]; exact (Below.refl _ _).alloc (Nat.le_refl _) _
  have hs1 : w.heap.size < w1.heap.size := by rw [hw1]; simp
  obtain ⟨g0, g1, g2⟩ := box3 hw1
  have hcf := progIsGr w1 r s (.slice a n cap) es ((h.below hb1).mono hb1.size) (by omega)
  obtain ⟨B, hB⟩ : ∃ B, B = isGr r s es := ⟨_, rfl⟩
  rw [← hB] at hcf
  obtain ⟨F, hF⟩ : ∃ F, F = reachG r s es x := ⟨_, rfl⟩
  rw [← hF]
  have hno : (B = false ∨ ¬ (0 ≤ x ∧ x < s)) → F = [] := by
    intro h
    rw [hF]
    unfold reachG isVx
    rw [← hB]
    rcases h with h | h
    · rw [h]; rfl
    · rw [decide_eq_false h, Bool.and_false]; rfl
  have hyes : B = true → (0 ≤ x ∧ x < s) → F = reachL es x := by
    intro h h2
    rw [hF]
    unfold reachG isVx
    rw [← hB, h, decide_eq_true h2]; rfl
  replace hno := hidI hno
  replace hyes := hidI hyes
  replace hF := hidI hF
  replace hn := hidI hn
  replace hw1 := hidI hw1
  replace h := hidI h
  have hnil : ∀ W : World, Below w.heap.size w W → F = [] → Hid (IntsRet w F (.returned (.slice none 0 0)) W) := by
    rintro W hW rfl
    exact hidI ⟨_, rfl, ⟨by simp, .inl ⟨rfl, rfl⟩⟩, hW⟩
  go_enter Tryz.func32, Tryz.ntmps32
  go_wp2_with fail
  rw [← hw1.out]
  refine hcf.mono ?_
  rintro e w2 ⟨rfl, hb2⟩
  clear hcf
  replace g0 := below_cell g0 hb2 hs1
  replace g1 := below_cell g1 hb2 hs1
  replace g2 := below_cell g2 hb2 hs1
  have hb12 := hidI (hb1.trans (hb2.mono hb1.size))
  have hs2 : w.heap.size < w2.heap.size := Nat.lt_of_lt_of_le hs1 hb2.size
  clear hb2
  cases B with
  | false =>
    have hfin := hnil w2 hb12.out (hno.out (.inl rfl))
    clear hnil
    replace hB := hidI hB
    go_wp2
    go_ret
    exact hfin.out
  | true =>
  have hlim := isGr_lim hB.symm
  have hE := hidI (endsIn_of hB.symm)
  have hci := gpVertex w2 r s x a n cap
  by_cases hv : 0 ≤ x ∧ x < s
  case neg =>
    have hd : decide (0 ≤ x ∧ x < s) = false := decide_eq_false hv
    rw [hd] at hci
    have hnil2 := fun W hW => hnil W hW (hno.out (.inr hv))
    clear hnil
    replace hnil2 := hidI hnil2
    replace hB := hidI hB
    replace hlim := hidI hlim
    replace hv := hidI hv
    go_wp2_with (go_at_call 59; refine hci.mono ?_; rintro e w3 ⟨rfl, hb3⟩; have hfin := hnil2.out w3 (hb12.out.trans (hb3.mono hb12.out.size)))
    go_ret
    exact hfin.out
  have hd : decide (0 ≤ x ∧ x < s) = true := decide_eq_true hv
  rw [hd] at hci
  have hfin := hidI (hyes.out rfl (by omega))
  obtain ⟨sN, rfl⟩ : ∃ k : Nat, s = (k : Int) := ⟨s.toNat, by omega⟩
  obtain ⟨xN, rfl⟩ : ∃ k : Nat, x = (k : Int) := ⟨x.toNat, by omega⟩
  have hs40 : sN ≤ 40 := by omega
  have hx40 : xN < sN := by omega
  clear hnil
  replace hB := hidI hB
  replace hlim := hidI hlim
  replace hv := hidI hv
  replace hno := hidI hno
  have hE2 : EndsIn sN es := by have := hE.out; simpa using this
  replace hE2 := hidI hE2
  go_upto_region 4 with (go_at_call 59; refine hci.mono ?_; rintro e w3 ⟨rfl, hb3⟩)
  have hs3 : w.heap.size < w3.heap.size := Nat.lt_of_lt_of_le hs2 hb3.size
  have p1 := below_cell g1 hb3 hs2
  have p2 := below_cell g2 hb3 hs2
  have hb13 := hidI (hb12.out.trans (hb3.mono hb12.out.size))
  have hrd := hidI ((h.out.below hb13.out).mono hb13.out.size)
  clear hci g0 g1 g2 hb3 hd
  obtain ⟨w4, hw4⟩ : ∃ z, z = w3.alloc (.cells #[.bool false, .bool false, .bool false, .bool false, .bool false, .bool false, .bool false, .bool false, .bool false, .bool false, .bool false, .bool false, .bool false, .bool false, .bool false, .bool false, .bool false, .bool false, .bool false, .bool false, .bool false, .bool false, .bool false, .bool false, .bool false, .bool false, .bool false, .bool false, .bool false, .bool false, .bool false, .bool false, .bool false, .bool false, .bool false, .bool false, .bool false, .bool false, .bool false, .bool false] 80) := ⟨_, rfl⟩
  have hG4 : BoolsAt w4 w3.heap.size [] := by
    rw [hw4]
    exact BoolsAt.none40 w3
  have hb4 : Below w3.heap.size w3 w4 := by rw [hw4]; exact (Below.refl _ _).alloc (Nat.le_refl _) _
  have cX := hG4.cell xN (by omega)
  rw [show decide (((xN : Nat) : Int) ∈ ([] : List Int)) = false from rfl] at cX
  have fX := fun j => hG4.frozen j
  have e1 : (w4.setCell ⟨w3.heap.size, xN, none⟩ (.bool true)).cell? ⟨w.heap.size, 1, none⟩ = some (.int .i64 (sN : Int)) := setCell_cell (below_cell p1 hb4 hs3) (by omega)
  have hG5 := hidI (hG4.set (L' := [(xN : Int)]) xN (by omega) (fun u hu => cons_set))
  have hb5 := hidI (hb4.setCell (p := ⟨w3.heap.size, xN, none⟩) (Nat.le_refl _) (.bool true))
  clear hb4 hG4
  rw [← hw4]
  replace hw4 := hidI hw4
  go_wp2
  go_loopg [23] sN (fun g i wr => ∃ k : Nat, k + g = sN ∧ i = .int .i64 k ∧ Hid (BoolsAt wr w3.heap.size (passN es k [(xN : Int)])) ∧ Hid (Below w3.heap.size w3 wr))
  case atStart => exact ⟨0, by omega, rfl, hG5, hb5⟩
  case round =>
    clear e1 cX fX hG5 hb5
    obtain ⟨k, hk, rfl, hG, hb⟩ := hrel
    have q1 := below_cell p1 hb.out hs3
    have q2 := below_cell p2 hb.out hs3
    obtain ⟨X, hX⟩ : ∃ X, X = passN es k [(xN : Int)] := ⟨_, rfl⟩
    have hnext : passN es (k + 1) [(xN : Int)] = passE es X := by rw [hX]; rfl
    rw [← hX] at hG
    replace hX := hidI hX
    replace hnext := hidI hnext
    by_cases hlt : k < sN
    · have hki : (k : Int) < (sN : Int) := by omega
      replace hk := hidI hk
      go_wp2
      go_loopg [28] n (fun g u wr => ∃ j : Nat, j + g = n ∧ u = .int .i64 j ∧ Hid (BoolsAt wr w3.heap.size (passE (es.take j) X)) ∧ Hid (Below w3.heap.size w3 wr))
      case atStart => exact ⟨0, by omega, rfl, hG, hb⟩
      case round =>
        clear hG hb q1 q2
        obtain ⟨j, hj, rfl, hG, hb⟩ := hrel
        have hsz2 := hb.out.size
        obtain ⟨L, hL⟩ : ∃ L, L = passE (es.take j) X := ⟨_, rfl⟩
        rw [← hL] at hG
        by_cases hlt2 : j < n
        · have hnx := passE_next (es := es) (acc := X) (j := j) (by have := hn.out; omega)
          rw [← hL] at hnx
          obtain ⟨b, off, rfl, hBl, c0, c1, c2⟩ := ReadE.at3 (hrd.out.below hb.out) j (by have := hn.out; omega)
          have hmem : es.getD j e0 ∈ es := by
            have hkl : j < es.length := by have := hn.out; omega
            rw [List.getD_eq_getElem?_getD, List.getElem?_eq_getElem hkl]
            exact List.getElem_mem hkl
          have hEj := hE2.out _ hmem
          obtain ⟨fN, hf⟩ : ∃ z : Nat, (es.getD j e0).1 = (z : Int) := ⟨(es.getD j e0).1.toNat, by omega⟩
          obtain ⟨l, hll⟩ : ∃ z, z = (es.getD j e0).2.1 := ⟨_, rfl⟩
          obtain ⟨tN, ht⟩ : ∃ z : Nat, (es.getD j e0).2.2 = (z : Int) := ⟨(es.getD j e0).2.2.toNat, by omega⟩
          have hke : es.getD j e0 = ((fN : Int), l, (tN : Int)) := by rw [← hf, hll, ← ht]
          rw [hf] at c0 hEj
          rw [← hll] at c1
          rw [ht] at c2 hEj
          rw [hke] at hnx
          have hf40 : fN < 40 := by omega
          have ht40 : tN < 40 := by omega
          have hf40i : (fN : Int) < 40 := by omega
          have ht40i : (tN : Int) < 40 := by omega
          have hji : (j : Int) < (n : Int) := by omega
          obtain ⟨w5, hw5⟩ : ∃ z, z = wr.alloc (.cells #[.int .i64 (fN : Int), .int .i64 l, .int .i64 (tN : Int)] 54) := ⟨_, rfl⟩
          have hb5 : Below wr.heap.size wr w5 := by rw [hw5]; exact (Below.refl _ _).alloc (Nat.le_refl _) _
          have hs5 : wr.heap.size < w5.heap.size := by rw [hw5]; simp
          obtain ⟨x0, x1, x2⟩ := box3 hw5
          have hGlt := hG.out.lt
          have hG5 := hG.out.below hb5 hGlt
          have cF := hG5.cell fN hf40
          have cT := hG5.cell tN ht40
          have hb15 := hidI (hb.out.trans (hb5.mono hsz2))
          replace hf := hidI hf
          replace hll := hidI hll
          replace ht := hidI ht
          replace hke := hidI hke
          replace hj := hidI hj
          replace hL := hidI hL
          replace hw5 := hidI hw5
          replace hEj := hidI hEj
          clear hG hb hb5 hmem
          by_cases q1 : (fN : Int) ∈ L
          · have d1 : decide ((fN : Int) ∈ L) = true := decide_eq_true q1
            have hor : (fN : Int) ∈ L ∨ (tN : Int) ∈ L := .inl q1
            rw [d1] at cF
            have cF' := cF
            rw [hw5.out] at cF'
            clear q1 cT
            obtain ⟨wd, hwd⟩ : ∃ z, z = w5.drew := ⟨_, rfl⟩
            have hbd5 : Below w5.heap.size w5 wd := by rw [hwd]; exact below_dn (Below.refl w5.heap.size w5) 1
            have hGd := hG5.below hbd5 (by omega)
            have hsd : w5.heap.size ≤ wd.heap.size := hbd5.size
            have xd0 := below_cell x0 hbd5 hs5
            have xd2 := below_cell x2 hbd5 hs5
            have fd := fun j => hGd.frozen j
            have cdF := hGd.cell fN hf40
            have cdT := hGd.cell tN ht40
            obtain ⟨wA, hwA⟩ : ∃ z, z = wd.setCell ⟨w3.heap.size, fN, none⟩ (.bool true) := ⟨_, rfl⟩
            have hA := hGd.set (L' := (fN : Int) :: L) fN hf40 (fun u hu => cons_set)
            rw [← hwA] at hA
            obtain ⟨wAB, hwAB⟩ : ∃ z, z = wA.setCell ⟨w3.heap.size, tN, none⟩ (.bool true) := ⟨_, rfl⟩
            have hAB := hA.set (L' := passE (es.take (j + 1)) X) tN ht40 (fun u hu => by rw [hnx]; exact touch_ft hor)
            rw [← hwAB] at hAB
            have fA := fun j => hA.frozen j
            have cAT := hA.cell tN ht40
            have xA0 : wA.cell? ⟨wr.heap.size, 0, none⟩ = some (.int .i64 (fN : Int)) := by rw [hwA]; exact setCell_cell xd0 (by omega)
            have xA2 : wA.cell? ⟨wr.heap.size, 2, none⟩ = some (.int .i64 (tN : Int)) := by rw [hwA]; exact setCell_cell xd2 (by omega)
            have xAB0 : wAB.cell? ⟨wr.heap.size, 0, none⟩ = some (.int .i64 (fN : Int)) := by rw [hwAB]; exact setCell_cell xA0 (by omega)
            have xAB2 : wAB.cell? ⟨wr.heap.size, 2, none⟩ = some (.int .i64 (tN : Int)) := by rw [hwAB]; exact setCell_cell xA2 (by omega)
            have hbwd := hb15.out.trans (hbd5.mono (by omega))
            have hbwAB : Below w3.heap.size w3 wAB := by rw [hwAB, hwA]; exact (hbwd.setCell (p := ⟨w3.heap.size, fN, none⟩) (Nat.le_refl _) _).setCell (p := ⟨w3.heap.size, tN, none⟩) (Nat.le_refl _) _
            have hBwAB := hidI hAB
            replace hbwAB := hidI hbwAB
            replace hwd := hidI hwd
            replace hwA := hidI hwA
            replace hwAB := hidI hwAB
            replace hA := hidI hA
            replace hGd := hidI hGd
            replace hbwd := hidI hbwd
            replace hnx := hidI hnx
            replace hor := hidI hor
            clear hAB hbd5
            go_wp2
            rw [← hw5.out]
            try go_wp2
            refine hideQ (fun _ _ d _ _ h => by cases d <;> exact h) (fun Q' hnorm hpan => ?_)
            refine wp_region_held_drew (S := (fun z => z.cell? ⟨wr.heap.size, 0, none⟩ = some (.int .i64 (fN : Int)) ∧ z.cell? ⟨wr.heap.size, 2, none⟩ = some (.int .i64 (tN : Int)))) (by kernel_rfl) ?_ (fun hHeld => ?_)
            · try dsimp only
              rw [← hwd.out]
              ((repeat' apply And.intro) <;> assumption)
            rw [← hwd.out] at hHeld ⊢
            refine take_at 0 42 (v := ?_) rfl (by kernel_rfl) (by kernel_rfl) (by kernel_rfl) (by kernel_rfl) hpan (Or.inl ⟨by rfl, ?_⟩) (by assumption) ?_
            rotate_left
            · intro w hSw; (try dsimp only at hSw); go_simp; with_reducible rfl
            simp only [Act.put, List.setIfInBounds_toArray, List.set_cons_zero, List.set_cons_succ]
            refine take_at 1 43 (v := ?_) rfl (by kernel_rfl) (by kernel_rfl) (by kernel_rfl) (by kernel_rfl) hpan (Or.inl ⟨by rfl, ?_⟩) (by assumption) ?_
            rotate_left
            · intro w hSw; (try dsimp only at hSw); go_simp; with_reducible rfl
            simp only [Act.put, List.setIfInBounds_toArray, List.set_cons_zero, List.set_cons_succ]
            refine take_at 2 44 (v := ?_) rfl (by kernel_rfl) (by kernel_rfl) (by kernel_rfl) (by kernel_rfl) hpan (Or.inl ⟨by rfl, ?_⟩) (by assumption) ?_
            rotate_left
            · intro w hSw; (try dsimp only at hSw); go_simp; with_reducible rfl
            simp only [Act.put, List.setIfInBounds_toArray, List.set_cons_zero, List.set_cons_succ]
            refine take_at 3 45 (v := ?_) rfl (by kernel_rfl) (by kernel_rfl) (by kernel_rfl) (by kernel_rfl) hpan (Or.inl ⟨by rfl, ?_⟩) (by assumption) ?_
            rotate_left
            · intro w hSw; (try dsimp only at hSw); go_simp; with_reducible rfl
            simp only [Act.put, List.setIfInBounds_toArray, List.set_cons_zero, List.set_cons_succ]
            refine take_at 4 46 (v := ?_) rfl (by kernel_rfl) (by kernel_rfl) (by kernel_rfl) (by kernel_rfl) hpan (Or.inl ⟨by rfl, ?_⟩) (by assumption) ?_
            rotate_left
            · intro w hSw; (try dsimp only at hSw); go_simp; with_reducible rfl
            simp only [Act.put, List.setIfInBounds_toArray, List.set_cons_zero, List.set_cons_succ]
            refine wpAnyH_ready (rs := [5]) (by kernel_rfl) (by simp) ?_
            refine AllReadyH.cons rfl (fun K hK => ?_) AllReadyH.nil
            rw [if_pos (by rfl)]
            go_simp
            rw [← hwA.out]
            refine hK.out _ _ ?_ (fun hHeld => ?_)
            · try dsimp only
              ((repeat' apply And.intro) <;> assumption)
            clear hK
            try simp only [Act.put, List.setIfInBounds_toArray, List.set_cons_zero, List.set_cons_succ]
            refine take_at 6 47 (v := ?_) rfl (by kernel_rfl) (by kernel_rfl) (by kernel_rfl) (by kernel_rfl) hpan (Or.inl ⟨by rfl, ?_⟩) (by assumption) ?_
            rotate_left
            · intro w hSw; (try dsimp only at hSw); go_simp; with_reducible rfl
            simp only [Act.put, List.setIfInBounds_toArray, List.set_cons_zero, List.set_cons_succ]
            refine wpAnyH_ready (rs := [7]) (by kernel_rfl) (by simp) ?_
            refine AllReadyH.cons rfl (fun K hK => ?_) AllReadyH.nil
            rw [if_pos (by rfl)]
            go_simp
            rw [← hwAB.out]
            refine hK.out _ _ ?_ (fun hHeld => ?_)
            · try dsimp only
              ((repeat' apply And.intro) <;> assumption)
            clear hK
            try simp only [Act.put, List.setIfInBounds_toArray, List.set_cons_zero, List.set_cons_succ]
            refine wpAnyH_done (by kernel_rfl) ?_ _
            refine hnorm _ _ ?_
            clear hnorm hpan
            repeat clear hHeld
            try simp only [Exit.then]
            go_wp2
            go_roundg (n - (j + 1))
            case rel => exact ⟨j + 1, by have := hj.out; omega, by go_num, hBwAB, hbwAB⟩
            case measure => have := hj.out; omega
          · have d1 : decide ((fN : Int) ∈ L) = false := decide_eq_false q1
            rw [d1] at cF
            have cF' := cF
            rw [hw5.out] at cF'
            by_cases q2 : (tN : Int) ∈ L
            · have d2 : decide ((tN : Int) ∈ L) = true := decide_eq_true q2
              have hor : (fN : Int) ∈ L ∨ (tN : Int) ∈ L := .inr q2
              rw [d2] at cT
              have cT' := cT
              rw [hw5.out] at cT'
              clear q1 q2
              obtain ⟨wd, hwd⟩ : ∃ z, z = w5.drew := ⟨_, rfl⟩
              have hbd5 : Below w5.heap.size w5 wd := by rw [hwd]; exact below_dn (Below.refl w5.heap.size w5) 1
              have hGd := hG5.below hbd5 (by omega)
              have hsd : w5.heap.size ≤ wd.heap.size := hbd5.size
              have xd0 := below_cell x0 hbd5 hs5
              have xd2 := below_cell x2 hbd5 hs5
              have fd := fun j => hGd.frozen j
              have cdF := hGd.cell fN hf40
              have cdT := hGd.cell tN ht40
              obtain ⟨wA, hwA⟩ : ∃ z, z = wd.setCell ⟨w3.heap.size, fN, none⟩ (.bool true) := ⟨_, rfl⟩
              have hA := hGd.set (L' := (fN : Int) :: L) fN hf40 (fun u hu => cons_set)
              rw [← hwA] at hA
              obtain ⟨wAB, hwAB⟩ : ∃ z, z = wA.setCell ⟨w3.heap.size, tN, none⟩ (.bool true) := ⟨_, rfl⟩
              have hAB := hA.set (L' := passE (es.take (j + 1)) X) tN ht40 (fun u hu => by rw [hnx]; exact touch_ft hor)
              rw [← hwAB] at hAB
              have fA := fun j => hA.frozen j
              have cAT := hA.cell tN ht40
              have xA0 : wA.cell? ⟨wr.heap.size, 0, none⟩ = some (.int .i64 (fN : Int)) := by rw [hwA]; exact setCell_cell xd0 (by omega)
              have xA2 : wA.cell? ⟨wr.heap.size, 2, none⟩ = some (.int .i64 (tN : Int)) := by rw [hwA]; exact setCell_cell xd2 (by omega)
              have xAB0 : wAB.cell? ⟨wr.heap.size, 0, none⟩ = some (.int .i64 (fN : Int)) := by rw [hwAB]; exact setCell_cell xA0 (by omega)
              have xAB2 : wAB.cell? ⟨wr.heap.size, 2, none⟩ = some (.int .i64 (tN : Int)) := by rw [hwAB]; exact setCell_cell xA2 (by omega)
              have hbwd := hb15.out.trans (hbd5.mono (by omega))
              have hbwAB : Below w3.heap.size w3 wAB := by rw [hwAB, hwA]; exact (hbwd.setCell (p := ⟨w3.heap.size, fN, none⟩) (Nat.le_refl _) _).setCell (p := ⟨w3.heap.size, tN, none⟩) (Nat.le_refl _) _
              have hBwAB := hidI hAB
              replace hbwAB := hidI hbwAB
              replace hwd := hidI hwd
              replace hwA := hidI hwA
              replace hwAB := hidI hwAB
              replace hA := hidI hA
              replace hGd := hidI hGd
              replace hbwd := hidI hbwd
              replace hnx := hidI hnx
              replace hor := hidI hor
              clear hAB hbd5
              go_wp2
              rw [← hw5.out]
              try go_wp2
              refine hideQ (fun _ _ d _ _ h => by cases d <;> exact h) (fun Q' hnorm hpan => ?_)
              refine wp_region_held_drew (S := (fun z => z.cell? ⟨wr.heap.size, 0, none⟩ = some (.int .i64 (fN : Int)) ∧ z.cell? ⟨wr.heap.size, 2, none⟩ = some (.int .i64 (tN : Int)))) (by kernel_rfl) ?_ (fun hHeld => ?_)
              · try dsimp only
                rw [← hwd.out]
                ((repeat' apply And.intro) <;> assumption)
              rw [← hwd.out] at hHeld ⊢
              refine take_at 0 42 (v := ?_) rfl (by kernel_rfl) (by kernel_rfl) (by kernel_rfl) (by kernel_rfl) hpan (Or.inl ⟨by rfl, ?_⟩) (by assumption) ?_
              rotate_left
              · intro w hSw; (try dsimp only at hSw); go_simp; with_reducible rfl
              simp only [Act.put, List.setIfInBounds_toArray, List.set_cons_zero, List.set_cons_succ]
              refine take_at 1 43 (v := ?_) rfl (by kernel_rfl) (by kernel_rfl) (by kernel_rfl) (by kernel_rfl) hpan (Or.inl ⟨by rfl, ?_⟩) (by assumption) ?_
              rotate_left
              · intro w hSw; (try dsimp only at hSw); go_simp; with_reducible rfl
              simp only [Act.put, List.setIfInBounds_toArray, List.set_cons_zero, List.set_cons_succ]
              refine take_at 2 44 (v := ?_) rfl (by kernel_rfl) (by kernel_rfl) (by kernel_rfl) (by kernel_rfl) hpan (Or.inl ⟨by rfl, ?_⟩) (by assumption) ?_
              rotate_left
              · intro w hSw; (try dsimp only at hSw); go_simp; with_reducible rfl
              simp only [Act.put, List.setIfInBounds_toArray, List.set_cons_zero, List.set_cons_succ]
              refine take_at 3 45 (v := ?_) rfl (by kernel_rfl) (by kernel_rfl) (by kernel_rfl) (by kernel_rfl) hpan (Or.inl ⟨by rfl, ?_⟩) (by assumption) ?_
              rotate_left
              · intro w hSw; (try dsimp only at hSw); go_simp; with_reducible rfl
              simp only [Act.put, List.setIfInBounds_toArray, List.set_cons_zero, List.set_cons_succ]
              refine take_at 4 46 (v := ?_) rfl (by kernel_rfl) (by kernel_rfl) (by kernel_rfl) (by kernel_rfl) hpan (Or.inl ⟨by rfl, ?_⟩) (by assumption) ?_
              rotate_left
              · intro w hSw; (try dsimp only at hSw); go_simp; with_reducible rfl
              simp only [Act.put, List.setIfInBounds_toArray, List.set_cons_zero, List.set_cons_succ]
              refine wpAnyH_ready (rs := [5]) (by kernel_rfl) (by simp) ?_
              refine AllReadyH.cons rfl (fun K hK => ?_) AllReadyH.nil
              rw [if_pos (by rfl)]
              go_simp
              rw [← hwA.out]
              refine hK.out _ _ ?_ (fun hHeld => ?_)
              · try dsimp only
                ((repeat' apply And.intro) <;> assumption)
              clear hK
              try simp only [Act.put, List.setIfInBounds_toArray, List.set_cons_zero, List.set_cons_succ]
              refine take_at 6 47 (v := ?_) rfl (by kernel_rfl) (by kernel_rfl) (by kernel_rfl) (by kernel_rfl) hpan (Or.inl ⟨by rfl, ?_⟩) (by assumption) ?_
              rotate_left
              · intro w hSw; (try dsimp only at hSw); go_simp; with_reducible rfl
              simp only [Act.put, List.setIfInBounds_toArray, List.set_cons_zero, List.set_cons_succ]
              refine wpAnyH_ready (rs := [7]) (by kernel_rfl) (by simp) ?_
              refine AllReadyH.cons rfl (fun K hK => ?_) AllReadyH.nil
              rw [if_pos (by rfl)]
              go_simp
              rw [← hwAB.out]
              refine hK.out _ _ ?_ (fun hHeld => ?_)
              · try dsimp only
                ((repeat' apply And.intro) <;> assumption)
              clear hK
              try simp only [Act.put, List.setIfInBounds_toArray, List.set_cons_zero, List.set_cons_succ]
              refine wpAnyH_done (by kernel_rfl) ?_ _
              refine hnorm _ _ ?_
              clear hnorm hpan
              repeat clear hHeld
              try simp only [Exit.then]
              go_wp2
              go_roundg (n - (j + 1))
              case rel => exact ⟨j + 1, by have := hj.out; omega, by go_num, hBwAB, hbwAB⟩
              case measure => have := hj.out; omega
            · have d2 : decide ((tN : Int) ∈ L) = false := decide_eq_false q2
              rw [d2] at cT
              have cT' := cT
              rw [hw5.out] at cT'
              have hsame := hidI (hG5.same (L' := passE (es.take (j + 1)) X) (fun u hu => by
                rw [hnx, mem_touchE]
                constructor
                · rintro (h | ⟨h | h, _⟩)
                  · exact h
                  · exact absurd h q1
                  · exact absurd h q2
                · exact .inl))
              replace hnx := hidI hnx
              clear q1 q2
              go_wp2
              rw [← hw5.out]
              try go_wp2
              go_roundg (n - (j + 1))
              case rel => exact ⟨j + 1, by have := hj.out; omega, by go_num, hsame, hb15⟩
              case measure => have := hj.out; omega
        · obtain rfl : j = n := by omega
          have hji : ¬ (j : Int) < (j : Int) := by omega
          have hfull : es.take j = es := List.take_of_length_le (by have := hn.out; omega)
          rw [hfull] at hL
          have hG9 := hidI (show BoolsAt wr w3.heap.size (passN es (k + 1) [(xN : Int)]) by rw [hnext.out, ← hL]; exact hG.out)
          replace hL := hidI hL
          replace hfull := hidI hfull
          replace hj := hidI hj
          go_wp2
          go_roundg (sN - (k + 1))
          case rel => exact ⟨k + 1, by have := hk.out; omega, by go_num, hG9, hb⟩
          case measure => have := hk.out; omega
    · obtain rfl : k = sN := by omega
      have hki : ¬ (k : Int) < (k : Int) := by omega
      replace hk := hidI hk
      have hGlt := hG.out.lt
      have hX' : upTo X k = F := by rw [hX.out, hfin.out]; exact upTo_all hE2.out (by omega)
      replace hX' := hidI hX'
      have hown0 := hidI (show OwnsI wr wr.heap.size (.slice none 0 0) (upTo X 0) from World.ownsRow_nil _ _ _ _)
      have hb0 := hidI (Below.refl wr.heap.size wr)
      obtain ⟨wx, hwx⟩ : ∃ z, z = wr := ⟨_, rfl⟩
      rw [← hwx] at hG hb q1 q2 hGlt hown0 hb0 ⊢
      have hgo9 : w3.heap.size ≤ wx.heap.size := hb.out.size
      clear hwx
      go_wp2
      go_loopg [8, 9, 52] k (fun g o y i wr => ∃ j : Nat, j + g = k ∧ i = .int .i64 j ∧ Hid (OwnsI wr wx.heap.size o (upTo X j)) ∧ Hid (Below wx.heap.size wx wr))
      case atStart => exact ⟨0, by omega, rfl, hown0, hb0⟩
      case round =>
        clear hown0 hb0 q1 q2
        obtain ⟨j, hj, rfl, hown, hb9⟩ := hrel
        by_cases hlt2 : j < k
        · have hji : (j : Int) < (k : Int) := by omega
          have cJ := (hG.out.below hb9.out hGlt).cell j (by omega)
          have hj40 : (j : Int) < 40 := by omega
          have hulen := upTo_length X j
          obtain ⟨a8, m8, c8, rfl⟩ : ∃ a m c, u8 = Value.slice a m c := by
            obtain ⟨_, ⟨h1, _⟩ | ⟨g, cap, cur, h1, _⟩⟩ := hown.out <;> exact ⟨_, _, _, h1⟩
          replace hj := hidI hj
          by_cases q1 : (j : Int) ∈ X
          · have d1 : decide ((j : Int) ∈ X) = true := decide_eq_true q1
            have hnx : upTo X (j + 1) = upTo X j ++ [(j : Int)] := by rw [upTo, if_pos q1]
            rw [d1] at cJ
            replace hnx := hidI hnx
            replace q1 := hidI q1
            go_wp2_with (at_builtin; go_must (refine wpList_pushI rfl _ _ rfl wx.heap.size _ (upTo X j) _ rfl rfl (by exact hown.out) (by omega) hb9.out.size ?_))
            intro v' w' hown' hb'
            rw [← hnx.out] at hown'
            replace hown' := hidI hown'
            replace hb' := hidI (hb9.out.trans hb')
            clear hown hb9
            go_wp2
            go_roundg (k - (j + 1))
            case rel => exact ⟨j + 1, by have := hj.out; omega, by go_num, hown', hb'⟩
            case measure => have := hj.out; omega
          · have d1 : decide ((j : Int) ∈ X) = false := decide_eq_false q1
            have hnx : upTo X (j + 1) = upTo X j := by rw [upTo, if_neg q1]
            rw [d1] at cJ
            rw [← hnx] at hown
            replace hnx := hidI hnx
            replace q1 := hidI q1
            go_wp2
            go_roundg (k - (j + 1))
            case rel => exact ⟨j + 1, by have := hj.out; omega, by go_num, hown, hb9⟩
            case measure => have := hj.out; omega
        · obtain rfl : j = k := by omega
          have hji : ¬ (j : Int) < (j : Int) := by omega
          have hr : IntsRet w F (.returned u8) wr := by
            have hlen := upTo_length X j
            have hrow := hown.out.row (by omega)
            rw [hX'.out] at hrow
            exact ⟨_, rfl, hrow.wide (by omega) (Nat.le_refl _), hb13.out.trans ((hb.out.trans (hb9.out.mono hgo9)).mono hb13.out.size)⟩
          replace hr := hidI hr
          replace hj := hidI hj
          go_wp2
          go_ret
          exact hr.out
end Go.Proofs.YtecceaijdjnflaaGreat
