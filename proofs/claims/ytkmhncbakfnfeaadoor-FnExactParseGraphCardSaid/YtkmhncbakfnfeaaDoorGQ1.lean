/- Graphs, the model: l4Num, l4Read, l4Cut. -/
import Derived.Test.YtkmhncbakfnfeaaDoorGF2
import Derived.Test.YtkmhncbakfnfeaaDoorParS
import Derived.Test.YtkmhncbakfnfeaaDoorGS3
import Derived.Lib.Split
import Derived.Deep.LoopGhost
namespace Go.Proofs.YtkmhncbakfnfeaaDoor
open Go.RowKit
set_option linter.unusedVariables false
set_option linter.unusedSimpArgs false
set_option maxRecDepth 100000

/-- A number of a part; -1 where it is none (the model), 0 (the program). -/
def numS (l : List UInt8) : Int := if (parseI l).2 = true then (parseI l).1 else -1
def numP (l : List UInt8) : Int := (parseI l).1
def isLow (c : UInt8) : Bool := decide (97 ≤ c.toNat ∧ c.toNat ≤ 99)
def isAny (c : UInt8) : Bool := decide (unch c ≠ 0)
/-- The edge of a part: at the first letter. -/
def readG (isL : UInt8 → Bool) (num : List UInt8 → Int) (pre : List UInt8) : List UInt8 → Ed
  | [] => (0, 0, 0)
  | c :: l => if isL c = true then (num pre, unch c, num l) else readG isL num (pre ++ [c]) l
theorem drop_byte {L : List UInt8} {k : Nat} (h : k < L.length) : L.drop k = L[k] :: L.drop (k + 1) := (List.getElem_cons_drop h).symm
theorem take_byte {L : List UInt8} {k : Nat} (h : k < L.length) : L.take (k + 1) = L.take k ++ [L[k]] := List.take_succ_eq_append_getElem h
theorem str_byte {s : ByteArray} {k : Nat} (h : k < s.size) : s.data.toList[k]'(by simpa using h) = s[k] := rfl
theorem l4Num_any (s : ByteArray) (w : World) (hs : s.size ≤ 1048576) : Calls Tryd.prog 25 #[.string s] w (LwInt w (numS s.data.toList)) := by
  obtain ⟨p, hp⟩ : ∃ p, p = parseI s.data.toList := ⟨_, rfl⟩
  have hc := specPar s w hs
  rw [← hp] at hc
  obtain ⟨n, b⟩ := p
  have hn : numS s.data.toList = if b = true then n else -1 := by unfold numS; rw [← hp]
  rw [hn]
  replace hp := hidI hp
  clear hn
  cases b with
  | true =>
    rw [if_pos rfl]
    go_enter Tryd.func25, Tryd.ntmps25
    go_wp2_with fail
    refine hc.mono ?_
    rintro e w1 ⟨rfl, hb1⟩
    go_wp2
    go_ret
    exact ⟨rfl, hb1⟩
  | false =>
    rw [if_neg (by simp)]
    go_enter Tryd.func25, Tryd.ntmps25
    go_wp2_with fail
    refine hc.mono ?_
    rintro e w1 ⟨rfl, hb1⟩
    go_wp2
    go_ret
    exact ⟨rfl, hb1⟩
/-- What a function leaves that hands back an edge. -/
def LwEdge (w : World) (e : Ed) (x : Ending) (w' : World) : Prop := x = .returned (.agg #[.int .i64 e.1, .int .i64 e.2.1, .int .i64 e.2.2]) ∧ Below w.heap.size w w'
theorem lwEdge_of {w w' : World} {a b c : Int} {e : Ed} (he : e = (a, b, c)) (hb : Below w.heap.size w w') : LwEdge w e (.returned (.agg #[.int .i64 a, .int .i64 b, .int .i64 c])) w' := ⟨by rw [he], hb⟩
theorem below_set3' {B b : Nat} {w w' : World} {x0 x1 x2 : Value} (h : Below B w w') (hb : B ≤ b) : Below B w (((w'.setCell ⟨b, 0, none⟩ x0).setCell ⟨b, 1, none⟩ x1).setCell ⟨b, 2, none⟩ x2) :=
  ((h.setCell (p := ⟨b, 0, none⟩) hb _).setCell (p := ⟨b, 1, none⟩) hb _).setCell (p := ⟨b, 2, none⟩) hb _
set_option maxHeartbeats 6400000 in
theorem l4Read_any (s : ByteArray) (w : World) (hs : s.size ≤ 1048576) : Calls Tryd.prog 26 #[.string s] w (LwEdge w (readG isLow numS [] s.data.toList)) := by
  obtain ⟨L, hL⟩ : ∃ L, L = s.data.toList := ⟨_, rfl⟩
  have hlen : L.length = s.size := by rw [hL]; rfl
  rw [← hL]
  obtain ⟨R, hR⟩ : ∃ R, R = readG isLow numS [] L := ⟨_, rfl⟩
  rw [← hR]
  obtain ⟨w1, hw1⟩ : ∃ w1, w1 = w.alloc (.cells #[.int .i64 0, .int .i64 0, .int .i64 0] 41) := ⟨_, rfl⟩
  have hb1 : Below w.heap.size w w1 := by rw [hw1]; exact (Below.refl _ _).alloc (Nat.le_refl _) _
  have hs1 : w.heap.size < w1.heap.size := by rw [hw1]; simp
  have hk1 := heap_alloc_new w (.cells #[.int .i64 0, .int .i64 0, .int .i64 0] 41)
  rw [← hw1] at hk1
  replace hL := hidI hL
  replace hlen := hidI hlen
  replace hR := hidI hR
  replace hw1 := hidI hw1
  replace hk1 := hidI hk1
  go_enter Tryd.func26, Tryd.ntmps26
  go_wp2
  rw [← hw1.out]
  go_loopg [3] s.size (fun g i wr => ∃ k : Nat, k + g = s.size ∧ i = .int .i64 k ∧ Hid (readG isLow numS (L.take k) (L.drop k) = R) ∧ Hid (Below w1.heap.size w1 wr))
  case atStart => exact ⟨0, by omega, rfl, hidI (by rw [hR.out]; simp), hidI (Below.refl _ _)⟩
  case round =>
    obtain ⟨k, hk, rfl, hR1, hb⟩ := hrel
    by_cases hlt : k < s.size
    · have hkL : k < L.length := by rw [hlen.out]; exact hlt
      have e1 : L[k] = s[k] := by have h := hL.out; subst h; rfl
      have hdrop : L.drop k = s[k] :: L.drop (k + 1) := by rw [drop_byte hkL, e1]
      have htake : L.take (k + 1) = L.take k ++ [s[k]] := by rw [take_byte hkL, e1]
      have hcb := toNat_lt s[k]
      have hki : (k : Int) < (s.size : Int) := by omega
      replace hdrop := hidI hdrop
      replace hk := hidI hk
      clear e1 hkL
      by_cases hc : 97 ≤ s[k].toNat ∧ s[k].toNat ≤ 99
      · obtain ⟨hc1, hc2⟩ := hc
        have hlow : isLow s[k] = true := by unfold isLow; simp; omega
        have hu := unch_low ⟨hc1, hc2⟩
        have hu2 : (s[k].toNat : Int) - 97 + 1 = unch s[k] := by rw [hu]; omega
        have d1 : (97 : Int) ≤ (s[k].toNat : Int) := by omega
        have d2 : (s[k].toNat : Int) ≤ 99 := by omega
        clear htake
        have hR2 : R = (numS (L.take k), unch s[k], numS (L.drop (k + 1))) := by rw [← hR1.out, hdrop.out, readG, if_pos hlow]
        have he1 : (s.extract 0 k).data.toList = L.take k := by rw [hL.out]; exact Lib.extract_from_zero s k
        have he2 : (s.extract (k + 1) s.size).data.toList = L.drop (k + 1) := by rw [hL.out]; exact Lib.extract_to_end s (k + 1)
        obtain ⟨wd, hwd⟩ : ∃ z, z = wr.drew := ⟨_, rfl⟩
        have hbd : Below wr.heap.size wr wd := by rw [hwd]; exact below_dn (Below.refl _ _) 1
        have hsd := hbd.size
        have hsb := hb.out.size
        have hkd : wd.heap[w.heap.size]? = some (.cells #[.int .i64 0, .int .i64 0, .int .i64 0] 41 (0, 0)) := by rw [hbd.block _ (by omega), hb.out.block _ (by omega)]; exact hk1.out
        replace hwd := hidI hwd
        replace hkd := hidI hkd
        replace hR2 := hidI hR2
        replace he1 := hidI he1
        replace he2 := hidI he2
        have hkz : (k : Int) ≤ (s.size : Int) := by omega
        have hkz1 : (k : Int) + 1 ≤ (s.size : Int) := by omega
        have hwk : IntKind.i64.wrap ((k : Int) + 1) = (k : Int) + 1 := IntWalk.i64_in _ (by omega)
        have hk0 : (0 : Int) ≤ (k : Int) + 1 := by omega
        have htn : ((k : Int) + 1).toNat = k + 1 := by omega
        obtain ⟨u, huv⟩ : ∃ u, u = unch s[k] := ⟨_, rfl⟩
        rw [← huv] at hu2
        have hw8 : IntKind.u8.wrap ((s[k].toNat : Int) - 97) = (s[k].toNat : Int) - 97 := by rw [IntKind.wrap_u8]; omega
        have hwa : IntKind.i64.wrap ((s[k].toNat : Int) - 97) = (s[k].toNat : Int) - 97 := IntWalk.i64_in _ (by omega)
        have hwb : IntKind.i64.wrap u = u := IntWalk.i64_in _ (by omega)
        replace hu := hidI hu
        replace huv := hidI huv
        go_wp2
        refine hideQ (fun _ _ d _ _ h => by cases d <;> exact h) (fun Q' hnorm hpan => ?_)
        refine wp_region_held_drew (S := (fun _ => True)) (by kernel_rfl) ?_ (fun hHeld => ?_)
        · try dsimp only
          all_goals trivial
        rw [← hwd.out]
        refine take_at 0 20 (v := ?_) rfl (by kernel_rfl) (by kernel_rfl) (by kernel_rfl) (by kernel_rfl) hpan (Or.inl ⟨by rfl, ?_⟩) (by assumption) ?_
        rotate_left
        · intro w hSw; (try dsimp only at hSw); go_simp; with_reducible rfl
        simp only [Act.put, List.setIfInBounds_toArray, List.set_cons_zero, List.set_cons_succ]
        refine take_at 1 21 (v := ?_) rfl (by kernel_rfl) (by kernel_rfl) (by kernel_rfl) (by kernel_rfl) hpan (Or.inl ⟨by rfl, ?_⟩) (by assumption) ?_
        rotate_left
        · intro w hSw; (try dsimp only at hSw); go_simp; with_reducible rfl
        simp only [Act.put, List.setIfInBounds_toArray, List.set_cons_zero, List.set_cons_succ]
        refine take_at 2 22 (v := ?_) rfl (by kernel_rfl) (by kernel_rfl) (by kernel_rfl) (by kernel_rfl) hpan (Or.inl ⟨by rfl, ?_⟩) (by assumption) ?_
        rotate_left
        · intro w hSw; (try dsimp only at hSw); go_simp; with_reducible rfl
        simp only [Act.put, List.setIfInBounds_toArray, List.set_cons_zero, List.set_cons_succ]
        refine take_at 4 24 (v := ?_) rfl (by kernel_rfl) (by kernel_rfl) (by kernel_rfl) (by kernel_rfl) hpan (Or.inl ⟨by rfl, ?_⟩) (by assumption) ?_
        rotate_left
        · intro w hSw; (try dsimp only at hSw); go_simp; with_reducible rfl
        simp only [Act.put, List.setIfInBounds_toArray, List.set_cons_zero, List.set_cons_succ]
        refine take_at 5 25 (v := ?_) rfl (by kernel_rfl) (by kernel_rfl) (by kernel_rfl) (by kernel_rfl) hpan (Or.inl ⟨by rfl, ?_⟩) (by assumption) ?_
        rotate_left
        · intro w hSw; (try dsimp only at hSw); go_simp; with_reducible rfl
        simp only [Act.put, List.setIfInBounds_toArray, List.set_cons_zero, List.set_cons_succ]
        refine take_at 6 26 (v := ?_) rfl (by kernel_rfl) (by kernel_rfl) (by kernel_rfl) (by kernel_rfl) hpan (Or.inl ⟨by rfl, ?_⟩) (by assumption) ?_
        rotate_left
        · intro w hSw; (try dsimp only at hSw); go_simp; with_reducible rfl
        simp only [Act.put, List.setIfInBounds_toArray, List.set_cons_zero, List.set_cons_succ]
        refine take_at 7 27 (v := ?_) rfl (by kernel_rfl) (by kernel_rfl) (by kernel_rfl) (by kernel_rfl) hpan (Or.inl ⟨by rfl, ?_⟩) (by assumption) ?_
        rotate_left
        · intro w hSw; (try dsimp only at hSw); go_simp; with_reducible rfl
        simp only [Act.put, List.setIfInBounds_toArray, List.set_cons_zero, List.set_cons_succ]
        refine take_at 8 28 (v := ?_) rfl (by kernel_rfl) (by kernel_rfl) (by kernel_rfl) (by kernel_rfl) hpan (Or.inl ⟨by rfl, ?_⟩) (by assumption) ?_
        rotate_left
        · intro w hSw; (try dsimp only at hSw); go_simp; with_reducible rfl
        simp only [Act.put, List.setIfInBounds_toArray, List.set_cons_zero, List.set_cons_succ]
        refine take_at 9 29 (v := ?_) rfl (by kernel_rfl) (by kernel_rfl) (by kernel_rfl) (by kernel_rfl) hpan (Or.inl ⟨by rfl, ?_⟩) (by assumption) ?_
        rotate_left
        · intro w hSw; (try dsimp only at hSw); go_simp; with_reducible rfl
        simp only [Act.put, List.setIfInBounds_toArray, List.set_cons_zero, List.set_cons_succ]
        refine take_at 10 30 (v := ?_) rfl (by kernel_rfl) (by kernel_rfl) (by kernel_rfl) (by kernel_rfl) hpan (Or.inl ⟨by rfl, ?_⟩) (by assumption) ?_
        rotate_left
        · intro w hSw; (try dsimp only at hSw); go_simp; with_reducible rfl
        simp only [Act.put, List.setIfInBounds_toArray, List.set_cons_zero, List.set_cons_succ]
        refine take_at 11 31 (v := ?_) rfl (by kernel_rfl) (by kernel_rfl) (by kernel_rfl) (by kernel_rfl) hpan (Or.inl ⟨by rfl, ?_⟩) (by assumption) ?_
        rotate_left
        · intro w hSw; (try dsimp only at hSw); go_simp; with_reducible rfl
        simp only [Act.put, List.setIfInBounds_toArray, List.set_cons_zero, List.set_cons_succ]
        refine take_at 12 32 (v := ?_) rfl (by kernel_rfl) (by kernel_rfl) (by kernel_rfl) (by kernel_rfl) hpan (Or.inl ⟨by rfl, ?_⟩) (by assumption) ?_
        rotate_left
        · intro w hSw; (try dsimp only at hSw); go_simp; with_reducible rfl
        simp only [Act.put, List.setIfInBounds_toArray, List.set_cons_zero, List.set_cons_succ]
        refine take_at 13 33 (v := ?_) rfl (by kernel_rfl) (by kernel_rfl) (by kernel_rfl) (by kernel_rfl) hpan (Or.inl ⟨by rfl, ?_⟩) (by assumption) ?_
        rotate_left
        · intro w hSw; (try dsimp only at hSw); go_simp; with_reducible rfl
        simp only [Act.put, List.setIfInBounds_toArray, List.set_cons_zero, List.set_cons_succ]
        refine wpAnyH_ready (rs := [3]) (by kernel_rfl) (by simp) ?_
        refine AllReadyH.cons rfl (fun K hK => ?_) AllReadyH.nil
        rw [if_pos (by rfl)]
        go_simp
        refine (l4Num_any (s.extract 0 k) wd (by simp [ByteArray.size_extract]; omega)).mono ?_
        rintro e w3 ⟨rfl, hb3⟩
        have hk3 : w3.heap[w.heap.size]? = some (.cells #[.int .i64 0, .int .i64 0, .int .i64 0] 41 (0, 0)) := by rw [hb3.block _ (by omega)]; exact hkd.out
        refine hK.out _ _ ?_ (fun hHeld => ?_)
        · try dsimp only
          all_goals trivial
        clear hK
        try simp only [Act.put, List.setIfInBounds_toArray, List.set_cons_zero, List.set_cons_succ]
        refine wpAnyH_ready (rs := [14]) (by kernel_rfl) (by simp) ?_
        refine AllReadyH.cons rfl (fun K hK => ?_) AllReadyH.nil
        rw [if_pos (by rfl)]
        go_simp
        refine (l4Num_any (s.extract (k + 1) s.size) w3 (by simp [ByteArray.size_extract]; omega)).mono ?_
        rintro e w4 ⟨rfl, hb4⟩
        have hs34 := hb3.size
        have hk4 : w4.heap[w.heap.size]? = some (.cells #[.int .i64 0, .int .i64 0, .int .i64 0] 41 (0, 0)) := by rw [hb4.block _ (by omega)]; exact hk3
        have z0 := cell_of_heap hk4 0
        have z1 := cell_of_heap hk4 1
        have z2 := cell_of_heap hk4 2
        have fz := fun j => frozen_of_row w4 w.heap.size j _ _ hk4
        simp at z0 z1 z2
        replace hk4 := hidI hk4
        replace hk3 := hidI hk3
        refine hK.out _ _ ?_ (fun hHeld => ?_)
        · try dsimp only
          all_goals trivial
        clear hK
        try simp only [Act.put, List.setIfInBounds_toArray, List.set_cons_zero, List.set_cons_succ]
        refine take_at 15 35 (v := ?_) rfl (by kernel_rfl) (by kernel_rfl) (by kernel_rfl) (by kernel_rfl) hpan (Or.inl ⟨by rfl, ?_⟩) (by assumption) ?_
        rotate_left
        · intro w hSw; (try dsimp only at hSw); go_simp; with_reducible rfl
        simp only [Act.put, List.setIfInBounds_toArray, List.set_cons_zero, List.set_cons_succ]
        refine wpAnyH_ready (rs := [16]) (by kernel_rfl) (by simp) ?_
        refine AllReadyH.cons rfl (fun K hK => ?_) AllReadyH.nil
        rw [if_pos (by rfl)]
        go_simp
        skip
        refine hK.out _ _ ?_ (fun hHeld => ?_)
        · try dsimp only
          all_goals trivial
        clear hK
        try simp only [Act.put, List.setIfInBounds_toArray, List.set_cons_zero, List.set_cons_succ]
        refine wpAnyH_done (by kernel_rfl) ?_ _
        refine hnorm _ _ ?_
        clear hnorm hpan
        repeat clear hHeld
        try simp only [Exit.then]
        have hbz := hb1.trans ((hb.out.trans ((hbd.trans ((hb3.trans (hb4.mono hb3.size)).mono hbd.size)).mono hb.out.size)).mono hb1.size)
        clear z0 z1 z2 fz
        go_wp2
        (try simp only [Exit.inBlock, Exit.then])
        refine ret_cell rfl (g := w.heap.size) rfl (set3 hk4.out _ _ _) Tryd.underlying41 sizeEdge ?_
        refine lwEdge_of ?_ (below_set3' hbz (Nat.le_refl _))
        have hq1 : numS (L.take k) = numS (List.take k s.data.toList) := by rw [hL.out]
        have hq3 : numS (L.drop (k + 1)) = numS (List.take (s.size - (k + 1)) (List.drop (k + 1) s.data.toList)) := by rw [hL.out, List.take_of_length_le (by rw [List.length_drop]; simp)]
        rw [← hq1, ← hq3, hR2.out, ← huv.out]
      · have hlow : isLow s[k] = false := by unfold isLow; simp; omega
        have hnx : Hid (readG isLow numS (L.take (k + 1)) (L.drop (k + 1)) = R) := hidI (by rw [← hR1.out, hdrop.out, htake, readG, hlow]; rfl)
        clear htake
        by_cases hc1 : 97 ≤ s[k].toNat
        · have d1 : (97 : Int) ≤ (s[k].toNat : Int) := by omega
          have d2 : decide ((s[k].toNat : Int) ≤ 99) = false := by simp; omega
          go_wp2
          go_roundg (s.size - (k + 1))
          case rel => exact ⟨k + 1, by have := hk.out; omega, by go_num, hnx, hb⟩
          case measure => have := hk.out; omega
        · have d1 : decide ((97 : Int) ≤ (s[k].toNat : Int)) = false := by simp; omega
          go_wp2
          go_roundg (s.size - (k + 1))
          case rel => exact ⟨k + 1, by have := hk.out; omega, by go_num, hnx, hb⟩
          case measure => have := hk.out; omega
    · obtain rfl : k = s.size := by omega
      have hfin : R = (0, 0, 0) := by rw [← hR1.out, List.drop_of_length_le (by rw [hlen.out]; omega)]; rfl
      have hki : ¬ (s.size : Int) < (s.size : Int) := by omega
      have hkz : wr.heap[w.heap.size]? = some (.cells #[.int .i64 0, .int .i64 0, .int .i64 0] 41 (0, 0)) := by rw [hb.out.block _ (by omega)]; exact hk1.out
      have z0 := cell_of_heap hkz 0
      have z1 := cell_of_heap hkz 1
      have z2 := cell_of_heap hkz 2
      have fz := fun j => frozen_of_row wr w.heap.size j _ _ hkz
      simp at z0 z1 z2
      have hbz := hb1.trans (hb.out.mono hb1.size)
      replace hkz := hidI hkz
      replace hfin := hidI hfin
      replace hk := hidI hk
      go_wp2
      (try simp only [Exit.inBlock, Exit.then])
      refine ret_cell rfl (g := w.heap.size) rfl (set3 hkz.out _ _ _) Tryd.underlying41 sizeEdge ?_
      exact lwEdge_of hfin.out (below_set3' hbz (Nat.le_refl _))
end Go.Proofs.YtkmhncbakfnfeaaDoor
