/- Graphs, the program: ParseGraph. -/
import Derived.Test.YtkmhncbakfnfeaaDoorGQ3
import Derived.Test.YtkmhncbakfnfeaaDoorGQ4
namespace Go.Proofs.YtkmhncbakfnfeaaDoor
open Go.RowKit
set_option linter.unusedVariables false
set_option linter.unusedSimpArgs false
set_option maxRecDepth 100000

/-- The parts as the program splits them: at most 123. -/
def splitP (s : List UInt8) : List (List UInt8) := Lib.splitK [32] 0 (min 123 (s.length + 1) - 1) s
def readP (l : List UInt8) : Ed := readG isAny numP [] l
def canP (T : List (List UInt8)) : List Ed := (T.drop 2).map readP
def pB (s : List UInt8) : Bool := decide (2 ≤ (splitP s).length ∧ fmtGr (numP ((splitP s).getD 0 [])) (numP ((splitP s).getD 1 [])) (canP (splitP s)) = s)
def pR (s : List UInt8) : Int := if pB s = true then numP ((splitP s).getD 0 []) else 0
def pZ (s : List UInt8) : Int := if pB s = true then numP ((splitP s).getD 1 []) else 0
def pE (s : List UInt8) : List Ed := if pB s = true then canP (splitP s) else []
/-- A cell of a text, an int of a graph's box: where the walk's cut goes. -/
def BoxAt (w2 : World) (n0 n1 : Int) (B : Nat) (wx : World) : Prop :=
  w2.heap.size ≤ B ∧ B < wx.heap.size ∧ wx.heap[B]? = some (.cells #[.int .i64 n0, .int .i64 n1, .slice none 0 0] 29 (0, 0)) ∧ Below w2.heap.size w2 wx
theorem splitK_parts (k : Nat) : ∀ (s : List UInt8), ∀ x ∈ Lib.splitK [32] 0 k s, x.length ≤ s.length := by
  induction k with
  | zero => intro s x hx; simp [Lib.splitK] at hx; subst hx; exact Nat.le_refl _
  | succ k ih =>
    intro s x hx
    unfold Lib.splitK at hx
    split at hx
    · simp at hx; subst hx; exact Nat.le_refl _
    · rcases List.mem_cons.1 hx with rfl | hx
      · rw [List.length_take]; omega
      · have := ih _ x hx; rw [List.length_drop] at this; omega
theorem splitK_ne (k : Nat) (s : List UInt8) : Lib.splitK [32] 0 k s ≠ [] := by
  cases k with
  | zero => simp [Lib.splitK]
  | succ k => unfold Lib.splitK; split <;> simp
set_option maxHeartbeats 6400000 in
theorem progParG (s : ByteArray) (w : World) (hs : s.size ≤ 1048576) (htab : Tab w) (mx : Int) (hmx : w.cell? ⟨0, 0, none⟩ = some (.int .i64 mx)) :
    Calls Tryd.prog 11 #[.string s] w (LwGraphBool w (pR s.data.toList) (pZ s.data.toList) (pE s.data.toList) (pB s.data.toList)) := by
  obtain ⟨L, hL⟩ : ∃ L, L = s.data.toList := ⟨_, rfl⟩
  have hlen : L.length = s.size := by rw [hL]; rfl
  rw [← hL]
  obtain ⟨T, hT⟩ : ∃ T, T = splitP L := ⟨_, rfl⟩
  obtain ⟨N, hN⟩ : ∃ N, N = min 123 (s.size + 1) := ⟨_, rfl⟩
  obtain ⟨Q, hQ⟩ : ∃ Q, Q = Lib.splitB ⟨#[32]⟩ 0 (N - 1) s := ⟨_, rfl⟩
  have hQT : Q.map (·.data.toList) = T := by
    rw [hQ, Lib.splitB_data, hT, ← hL, hN]
    unfold splitP
    rw [hlen]
  have hQl : Q.length = T.length := by rw [← hQT, List.length_map]
  have hQN : Q.length ≤ N := by
    have := Lib.splitB_length_le ⟨#[32]⟩ 0 (N - 1) s
    rw [← hQ] at this
    omega
  have hT0 : T ≠ [] := by rw [hT]; exact splitK_ne _ _
  have hTpos : 0 < T.length := List.length_pos_iff.2 hT0
  have hTp : ∀ x ∈ T, (toB x).size ≤ 1048576 := by
    intro x hx
    rw [hT] at hx
    have := splitK_parts _ L x hx
    have h2 : (toB x).size = x.length := by simp [toB, ByteArray.size]
    rw [h2]
    omega
  have hQat : ∀ j, j < T.length → Q[j]? = some (toB (T.getD j [])) := by
    intro j hj
    have hj2 : j < Q.length := by omega
    rw [List.getElem?_eq_getElem hj2]
    have : T.getD j [] = (Q[j]).data.toList := by
      rw [List.getD_eq_getElem?_getD, ← hQT, List.getElem?_map, List.getElem?_eq_getElem hj2]; rfl
    rw [this, toB_of]
  obtain ⟨w1, hw1⟩ : ∃ w1, w1 = w.alloc (.cells #[.int .i64 0, .int .i64 0, .slice none 0 0] 29) := ⟨_, rfl⟩
  have hb1 : Below w.heap.size w w1 := by rw [hw1]; exact (Below.refl _ _).alloc (Nat.le_refl _) _
  have hs1 : w1.heap.size = w.heap.size + 1 := by rw [hw1]; simp
  have hk1 := heap_alloc_new w (.cells #[.int .i64 0, .int .i64 0, .slice none 0 0] 29)
  rw [← hw1] at hk1
  have hmx1 : w1.cell? ⟨0, 0, none⟩ = some (.int .i64 mx) := by
    have h0 : 0 < w.heap.size := by
      rcases Nat.eq_zero_or_pos w.heap.size with h | h
      · unfold World.cell? at hmx
        rw [show w.heap[(⟨0, 0, none⟩ : Addr).block]? = none from Array.getElem?_eq_none (by simp only; omega)] at hmx
        cases hmx
      · exact h
    exact below_cell hmx hb1 h0
  have hsp := Tryd.strings_SplitN s ⟨#[32]⟩ 123 mx w1 (by omega) hmx1 (by decide) (by omega) (by omega)
  rw [← hN, ← hQ] at hsp
  obtain ⟨w2, hw2⟩ : ∃ w2, w2 = w1.alloc (.cells (Lib.cellsOf Q N) 9) := ⟨_, rfl⟩
  rw [← hw2] at hsp
  have hb2 : Below w1.heap.size w1 w2 := by rw [hw2]; exact (Below.refl _ _).alloc (Nat.le_refl _) _
  have hs2 : w2.heap.size = w1.heap.size + 1 := by rw [hw2]; simp
  have hh2 := heap_alloc_new w1 (.cells (Lib.cellsOf Q N) 9)
  rw [← hw2] at hh2
  have hpart : ∀ j, j < T.length → ∀ wx, Below w2.heap.size w2 wx → wx.cell? ⟨w1.heap.size, j, none⟩ = some (.string (toB (T.getD j []))) := by
    intro j hj wx hbx
    refine below_cell ?_ hbx (by omega)
    have hc : (Lib.cellsOf Q N)[j]? = some (.string (toB (T.getD j []))) := by
      unfold Lib.cellsOf
      rw [List.getElem?_toArray, List.getElem?_append_left (by simp; omega), List.getElem?_map, hQat j hj]
      rfl
    unfold World.cell?
    rw [hh2]
    simpa using hc
  have hget : ∀ j, j < T.length → T.getD j [] ∈ T := by
    intro j hj
    rw [List.getD_eq_getElem?_getD, List.getElem?_eq_getElem hj]
    exact List.getElem_mem hj
  have htab2 : Tab w2 := (htab.below hb1).below hb2
  obtain ⟨n0, hn0⟩ : ∃ n0, n0 = numP (T.getD 0 []) := ⟨_, rfl⟩
  obtain ⟨n1, hn1⟩ : ∃ n1, n1 = numP (T.getD 1 []) := ⟨_, rfl⟩
  obtain ⟨E, hE⟩ : ∃ E, E = canP T := ⟨_, rfl⟩
  obtain ⟨PB, hPB⟩ : ∃ PB, PB = pB L := ⟨_, rfl⟩
  obtain ⟨QR, hQR⟩ : ∃ q, q = pR L := ⟨_, rfl⟩
  obtain ⟨QZ, hQZ⟩ : ∃ q, q = pZ L := ⟨_, rfl⟩
  obtain ⟨QE, hQE⟩ : ∃ q, q = pE L := ⟨_, rfl⟩
  rw [← hQR, ← hQZ, ← hQE, ← hPB]
  have hPB2 : PB = decide (2 ≤ T.length ∧ fmtGr n0 n1 E = L) := by rw [hPB, hn0, hn1, hE, hT]; rfl
  unfold pR at hQR
  unfold pZ at hQZ
  unfold pE at hQE
  rw [← hPB, ← hT, ← hn0] at hQR
  rw [← hPB, ← hT, ← hn1] at hQZ
  rw [← hPB, ← hT, ← hE] at hQE
  obtain ⟨tn, htn⟩ : ∃ tn, tn = T.length := ⟨_, rfl⟩
  rw [hQl, ← htn] at hsp
  rw [← htn] at hQl hTpos hPB2
  have hget2 : ∀ j, j < tn → T.getD j [] ∈ T := fun j hj => hget j (by omega)
  have hpart2 : ∀ j, j < tn → ∀ wx, Below w2.heap.size w2 wx → wx.cell? ⟨w1.heap.size, j, none⟩ = some (.string (toB (T.getD j []))) := fun j hj => hpart j (by omega)
  have htnN : tn ≤ N := by omega
  have hN123 : N ≤ 123 := by omega
  clear hget hpart hmx hmx1 hQat
  replace htn := hidI htn
  replace hL := hidI hL
  replace hlen := hidI hlen
  replace hT := hidI hT
  replace hN := hidI hN
  replace hQ := hidI hQ
  replace hQT := hidI hQT
  replace hQl := hidI hQl
  replace hQN := hidI hQN
  replace hT0 := hidI hT0
  replace hTp := hidI hTp
  replace hw1 := hidI hw1
  replace hs1 := hidI hs1
  replace hk1 := hidI hk1
  replace hw2 := hidI hw2
  replace hs2 := hidI hs2
  replace hh2 := hidI hh2
  replace hget2 := hidI hget2
  replace hpart2 := hidI hpart2
  replace htab2 := hidI htab2
  replace htab := hidI htab
  replace hn0 := hidI hn0
  replace hn1 := hidI hn1
  replace hE := hidI hE
  replace hPB := hidI hPB
  replace hPB2 := hidI hPB2
  replace hQR := hidI hQR
  replace hQZ := hidI hQZ
  replace hQE := hidI hQE
  have hz2 : w2.heap[w.heap.size]? = some (.cells #[.int .i64 0, .int .i64 0, .slice none 0 0] 29 (0, 0)) := by rw [hb2.block _ (by have := hs1.out; omega)]; exact hk1.out
  have hbz2 := hb1.trans (hb2.mono hb1.size)
  have hltz : w.heap.size < w2.heap.size := by have := hs1.out; have := hs2.out; omega
  have hfail : ∀ wx, wx.heap[w.heap.size]? = some (.cells #[.int .i64 0, .int .i64 0, .slice none 0 0] 29 (0, 0)) → PB = false → Below w.heap.size w wx → LwGraphBool w QR QZ QE PB (.returned (.tuple #[.agg #[.int .i64 0, .int .i64 0, .slice none 0 0], .bool false])) (((wx.setCell ⟨w.heap.size, 0, none⟩ (.int .i64 0)).setCell ⟨w.heap.size, 1, none⟩ (.int .i64 0)).setCell ⟨w.heap.size, 2, none⟩ (.slice none 0 0)) := by
    intro wx h1 h2 h3
    subst h2
    rw [hQR.out, hQZ.out, hQE.out]
    refine ⟨none, 0, rfl, ?_, below_set3' h3 (Nat.le_refl _)⟩
    exact ((OwnsS.nil _ _).row (by simp)).wide (Nat.le_refl _) (Nat.le_refl _)
  replace hz2 := hidI hz2
  replace hbz2 := hidI hbz2
  replace hfail := hidI hfail
  go_enter Tryd.func11, Tryd.ntmps11
  go_wp2_with fail
  rw [← hw1.out]
  refine hsp.mono ?_
  rintro e wy ⟨rfl, hwy⟩
  have hwy' := hwy.symm
  subst hwy'
  clear hsp hwy
  by_cases h2 : tn < 2
  · have hp : PB = false := by rw [hPB2.out]; simp; omega
    have h2i : (tn : Int) < 2 := by omega
    have z0 := cell_of_heap hz2.out 0
    have z1 := cell_of_heap hz2.out 1
    have z2 := cell_of_heap hz2.out 2
    have fz := fun j => frozen_of_row w2 w.heap.size j _ _ hz2.out
    simp at z0 z1 z2
    replace hp := hidI hp
    go_wp2
    (try simp only [Exit.inBlock, Exit.then])
    refine ret_cell2 (x := .bool false) rfl rfl rfl (set3 hz2.out _ _ _) Tryd.underlying29 sizeGraph ?_
    exact hfail.out w2 hz2.out hp.out hbz2.out
  have h2i : ¬ (tn : Int) < 2 := by omega
  have h2n : 2 ≤ tn := by omega
  have h0i : (0 : Int) < (tn : Int) := by omega
  have h1i : (1 : Int) < (tn : Int) := by omega
  go_upto_region 4 with fail
  obtain ⟨B0, hB0⟩ : ∃ B, B = toB (T.getD 0 []) := ⟨_, rfl⟩
  obtain ⟨B1, hB1⟩ : ∃ B, B = toB (T.getD 1 []) := ⟨_, rfl⟩
  have hz0 : B0.size ≤ 1048576 := by rw [hB0]; exact hTp.out _ (hget2.out 0 (by omega))
  have hz1 : B1.size ≤ 1048576 := by rw [hB1]; exact hTp.out _ (hget2.out 1 (by omega))
  have hq0 : numP B0.data.toList = n0 := by rw [hB0, toB_list, hn0.out]
  have hq1 : numP B1.data.toList = n1 := by rw [hB1, toB_list, hn1.out]
  have hcl0 : ∀ wx, Below w2.heap.size w2 wx → wx.cell? ⟨w1.heap.size, 0, none⟩ = some (.string B0) := by rw [hB0]; exact hpart2.out 0 (by omega)
  have hcl1 : ∀ wx, Below w2.heap.size w2 wx → wx.cell? ⟨w1.heap.size, 1, none⟩ = some (.string B1) := by rw [hB1]; exact hpart2.out 1 (by omega)
  have hl2 : w1.heap.size < w2.heap.size := by have := hs2.out; omega
  have hdr := below_dn (Below.refl w2.heap.size w2) 1
  obtain ⟨wd, hwd⟩ : ∃ z, z = w2.drew := ⟨_, rfl⟩
  have hbd : Below w2.heap.size w2 wd := by rw [hwd]; exact hdr
  have x0 := hcl0 wd hbd
  have x1 := hcl1 wd hbd
  have htd : Hid (Tab wd) := hidI (htab2.out.below hbd)
  have hsd := hbd.size
  replace hwd := hidI hwd
  replace hB0 := hidI hB0
  replace hB1 := hidI hB1
  replace hcl0 := hidI hcl0
  replace hcl1 := hidI hcl1
  go_cut [5] from 14 to 22 (fun v wx => ∃ B : Nat, v = .pointer (some ⟨B, 0, none⟩) ∧ BoxAt w2 n0 n1 B wx)
  case first =>
    refine hideQ (fun _ _ d _ _ h => by cases d <;> exact h) (fun Q' hnorm hpan => ?_)
    refine wp_region_held_drew (S := (fun z => z.cell? ⟨w1.heap.size, 0, none⟩ = some (.string B0) ∧ z.cell? ⟨w1.heap.size, 1, none⟩ = some (.string B1))) (by kernel_rfl) ?_ (fun hHeld => ?_)
    · try dsimp only
      rw [← hwd.out]
      ((repeat' apply And.intro) <;> assumption)
    rw [← hwd.out] at hHeld ⊢
    refine take_at 0 14 (v := ?_) rfl (by kernel_rfl) (by kernel_rfl) (by kernel_rfl) (by kernel_rfl) hpan (Or.inl ⟨by rfl, ?_⟩) (by assumption) ?_
    rotate_left
    · intro w hSw; (try dsimp only at hSw); go_simp; with_reducible rfl
    simp only [Act.put, List.setIfInBounds_toArray, List.set_cons_zero, List.set_cons_succ]
    refine take_at 1 15 (v := ?_) rfl (by kernel_rfl) (by kernel_rfl) (by kernel_rfl) (by kernel_rfl) hpan (Or.inl ⟨by rfl, ?_⟩) (by assumption) ?_
    rotate_left
    · intro w hSw; (try dsimp only at hSw); go_simp; with_reducible rfl
    simp only [Act.put, List.setIfInBounds_toArray, List.set_cons_zero, List.set_cons_succ]
    refine take_at 2 16 (v := ?_) rfl (by kernel_rfl) (by kernel_rfl) (by kernel_rfl) (by kernel_rfl) hpan (Or.inl ⟨by rfl, ?_⟩) (by assumption) ?_
    rotate_left
    · intro w hSw; (try dsimp only at hSw); go_simp; with_reducible rfl
    simp only [Act.put, List.setIfInBounds_toArray, List.set_cons_zero, List.set_cons_succ]
    refine take_at 4 18 (v := ?_) rfl (by kernel_rfl) (by kernel_rfl) (by kernel_rfl) (by kernel_rfl) hpan (Or.inl ⟨by rfl, ?_⟩) (by assumption) ?_
    rotate_left
    · intro w hSw; (try dsimp only at hSw); go_simp; with_reducible rfl
    simp only [Act.put, List.setIfInBounds_toArray, List.set_cons_zero, List.set_cons_succ]
    refine take_at 5 19 (v := ?_) rfl (by kernel_rfl) (by kernel_rfl) (by kernel_rfl) (by kernel_rfl) hpan (Or.inl ⟨by rfl, ?_⟩) (by assumption) ?_
    rotate_left
    · intro w hSw; (try dsimp only at hSw); go_simp; with_reducible rfl
    simp only [Act.put, List.setIfInBounds_toArray, List.set_cons_zero, List.set_cons_succ]
    refine take_at 6 20 (v := ?_) rfl (by kernel_rfl) (by kernel_rfl) (by kernel_rfl) (by kernel_rfl) hpan (Or.inl ⟨by rfl, ?_⟩) (by assumption) ?_
    rotate_left
    · intro w hSw; (try dsimp only at hSw); go_simp; with_reducible rfl
    simp only [Act.put, List.setIfInBounds_toArray, List.set_cons_zero, List.set_cons_succ]
    refine wpAnyH_ready (rs := [3, 9]) (by kernel_rfl) (by simp) ?_
    refine AllReadyH.cons rfl (fun K hK => ?_) ?_
    ·
      rw [if_pos (by rfl)]
      go_simp
      have hcc := numberIn_any B0 wd hz0 htd.out
      rw [hq0] at hcc
      refine hcc.mono ?_
      rintro e v0 ⟨rfl, hbx⟩
      clear hcc
      have hbv0 := hbd.trans (hbx.mono hbd.size)
      have hsz0 := hbx.size
      replace x0 := below_cell x0 hbx (by omega)
      replace x1 := below_cell x1 hbx (by omega)
      replace htd := hidI (htd.out.below hbx)
      clear hbx
      refine hK.out _ _ ?_ (fun hHeld => ?_)
      · try dsimp only
        ((repeat' apply And.intro) <;> assumption)
      clear hK
      try simp only [Act.put, List.setIfInBounds_toArray, List.set_cons_zero, List.set_cons_succ]
      refine wpAnyH_ready (rs := [7, 9]) (by kernel_rfl) (by simp) ?_
      refine AllReadyH.cons rfl (fun K hK => ?_) ?_
      ·
        rw [if_pos (by rfl)]
        go_simp
        have hcc := numberIn_any B1 v0 hz1 htd.out
        rw [hq1] at hcc
        refine hcc.mono ?_
        rintro e v1 ⟨rfl, hbx⟩
        clear hcc
        have hbv1 := hbv0.trans (hbx.mono hbv0.size)
        have hsz1 := hbx.size
        replace x0 := below_cell x0 hbx (by omega)
        replace x1 := below_cell x1 hbx (by omega)
        replace htd := hidI (htd.out.below hbx)
        clear hbx
        refine hK.out _ _ ?_ (fun hHeld => ?_)
        · try dsimp only
          ((repeat' apply And.intro) <;> assumption)
        clear hK
        try simp only [Act.put, List.setIfInBounds_toArray, List.set_cons_zero, List.set_cons_succ]
        refine take_at 8 22 (v := ?_) rfl (by kernel_rfl) (by kernel_rfl) (by kernel_rfl) (by kernel_rfl) hpan (Or.inl ⟨by rfl, ?_⟩) (by assumption) ?_
        rotate_left
        · intro w hSw; (try dsimp only at hSw); go_simp; with_reducible rfl
        simp only [Act.put, List.setIfInBounds_toArray, List.set_cons_zero, List.set_cons_succ]
        refine wpAnyH_ready (rs := [9]) (by kernel_rfl) (by simp) ?_
        refine AllReadyH.cons rfl (fun K hK => ?_) AllReadyH.nil
        rw [if_pos (by rfl)]
        go_simp
        obtain ⟨v2, hn2⟩ : ∃ z, z = v1.alloc (.cells #[.int .i64 0, .int .i64 0, .slice none 0 0] 29) := ⟨_, rfl⟩
        have hbx : Below v1.heap.size v1 v2 := by rw [hn2]; exact (Below.refl _ _).alloc (Nat.le_refl _) _
        have hltA : v1.heap.size < v2.heap.size := by rw [hn2]; simp
        have hBA := heap_alloc_new v1 (.cells #[.int .i64 0, .int .i64 0, .slice none 0 0] 29)
        rw [← hn2] at hBA
        rw [← hn2]
        replace hn2 := hidI hn2
        replace hBA := hidI hBA
        have hbv2 := hbv1.trans (hbx.mono hbv1.size)
        have hsz2 := hbx.size
        replace x0 := below_cell x0 hbx (by omega)
        replace x1 := below_cell x1 hbx (by omega)
        replace htd := hidI (htd.out.below hbx)
        clear hbx
        refine hK.out _ _ ?_ (fun hHeld => ?_)
        · try dsimp only
          ((repeat' apply And.intro) <;> assumption)
        clear hK
        try simp only [Act.put, List.setIfInBounds_toArray, List.set_cons_zero, List.set_cons_succ]
        refine wpAnyH_ready (rs := [10]) (by kernel_rfl) (by simp) ?_
        refine AllReadyH.cons rfl (fun K hK => ?_) AllReadyH.nil
        rw [if_pos (by rfl)]
        have z0 := cell_of_heap hBA.out 0
        have z1 := cell_of_heap hBA.out 1
        have z2 := cell_of_heap hBA.out 2
        have fz := fun j => frozen_of_row v2 v1.heap.size j _ _ hBA.out
        simp at z0 z1 z2
        obtain ⟨ve, hne⟩ : ∃ z, z = ((v2.setCell ⟨v1.heap.size, 0, none⟩ (.int .i64 n0)).setCell ⟨v1.heap.size, 1, none⟩ (.int .i64 n1)).setCell ⟨v1.heap.size, 2, none⟩ (.slice none 0 0) := ⟨_, rfl⟩
        have hbl : w2.heap.size ≤ v1.heap.size := by omega
        have hbve : Below w2.heap.size w2 ve := by rw [hne]; exact below_set3' hbv2 hbl
        replace x0 := hcl0.out ve hbve
        replace x1 := hcl1.out ve hbve
        have hrel : BoxAt w2 n0 n1 v1.heap.size ve := by
          rw [hne]
          exact ⟨hbl, by simp [World.setCell]; omega, set3 hBA.out _ _ _, below_set3' hbv2 hbl⟩
        replace hrel := hidI hrel
        replace hne := hidI hne
        go_simp
        rw [← hne.out]
        clear z0 z1 z2 fz
        refine hK.out _ _ ?_ (fun hHeld => ?_)
        · try dsimp only
          ((repeat' apply And.intro) <;> assumption)
        clear hK
        try simp only [Act.put, List.setIfInBounds_toArray, List.set_cons_zero, List.set_cons_succ]
        refine wpAnyH_done (by kernel_rfl) ?_ _
        refine hnorm _ _ ?_
        clear hnorm hpan
        repeat clear hHeld
        try simp only [Exit.then]
        go_wp2_with fail
        go_meet
        exact ⟨_, rfl, hrel.out⟩
      refine AllReadyH.cons rfl (fun K hK => ?_) AllReadyH.nil
      rw [if_pos (by rfl)]
      go_simp
      obtain ⟨v1, hn1⟩ : ∃ z, z = v0.alloc (.cells #[.int .i64 0, .int .i64 0, .slice none 0 0] 29) := ⟨_, rfl⟩
      have hbx : Below v0.heap.size v0 v1 := by rw [hn1]; exact (Below.refl _ _).alloc (Nat.le_refl _) _
      have hltA : v0.heap.size < v1.heap.size := by rw [hn1]; simp
      have hBA := heap_alloc_new v0 (.cells #[.int .i64 0, .int .i64 0, .slice none 0 0] 29)
      rw [← hn1] at hBA
      rw [← hn1]
      replace hn1 := hidI hn1
      replace hBA := hidI hBA
      have hbv1 := hbv0.trans (hbx.mono hbv0.size)
      have hsz1 := hbx.size
      replace x0 := below_cell x0 hbx (by omega)
      replace x1 := below_cell x1 hbx (by omega)
      replace htd := hidI (htd.out.below hbx)
      clear hbx
      refine hK.out _ _ ?_ (fun hHeld => ?_)
      · try dsimp only
        ((repeat' apply And.intro) <;> assumption)
      clear hK
      try simp only [Act.put, List.setIfInBounds_toArray, List.set_cons_zero, List.set_cons_succ]
      refine wpAnyH_ready (rs := [7]) (by kernel_rfl) (by simp) ?_
      refine AllReadyH.cons rfl (fun K hK => ?_) AllReadyH.nil
      rw [if_pos (by rfl)]
      go_simp
      have hcc := numberIn_any B1 v1 hz1 htd.out
      rw [hq1] at hcc
      refine hcc.mono ?_
      rintro e v2 ⟨rfl, hbx⟩
      clear hcc
      have hbv2 := hbv1.trans (hbx.mono hbv1.size)
      have hsz2 := hbx.size
      replace x0 := below_cell x0 hbx (by omega)
      replace x1 := below_cell x1 hbx (by omega)
      replace htd := hidI (htd.out.below hbx)
      replace hBA := hidI ((hbx.block _ (by omega)).trans hBA.out)
      clear hbx
      refine hK.out _ _ ?_ (fun hHeld => ?_)
      · try dsimp only
        ((repeat' apply And.intro) <;> assumption)
      clear hK
      try simp only [Act.put, List.setIfInBounds_toArray, List.set_cons_zero, List.set_cons_succ]
      refine take_at 8 22 (v := ?_) rfl (by kernel_rfl) (by kernel_rfl) (by kernel_rfl) (by kernel_rfl) hpan (Or.inl ⟨by rfl, ?_⟩) (by assumption) ?_
      rotate_left
      · intro w hSw; (try dsimp only at hSw); go_simp; with_reducible rfl
      simp only [Act.put, List.setIfInBounds_toArray, List.set_cons_zero, List.set_cons_succ]
      refine wpAnyH_ready (rs := [10]) (by kernel_rfl) (by simp) ?_
      refine AllReadyH.cons rfl (fun K hK => ?_) AllReadyH.nil
      rw [if_pos (by rfl)]
      have z0 := cell_of_heap hBA.out 0
      have z1 := cell_of_heap hBA.out 1
      have z2 := cell_of_heap hBA.out 2
      have fz := fun j => frozen_of_row v2 v0.heap.size j _ _ hBA.out
      simp at z0 z1 z2
      obtain ⟨ve, hne⟩ : ∃ z, z = ((v2.setCell ⟨v0.heap.size, 0, none⟩ (.int .i64 n0)).setCell ⟨v0.heap.size, 1, none⟩ (.int .i64 n1)).setCell ⟨v0.heap.size, 2, none⟩ (.slice none 0 0) := ⟨_, rfl⟩
      have hbl : w2.heap.size ≤ v0.heap.size := by omega
      have hbve : Below w2.heap.size w2 ve := by rw [hne]; exact below_set3' hbv2 hbl
      replace x0 := hcl0.out ve hbve
      replace x1 := hcl1.out ve hbve
      have hrel : BoxAt w2 n0 n1 v0.heap.size ve := by
        rw [hne]
        exact ⟨hbl, by simp [World.setCell]; omega, set3 hBA.out _ _ _, below_set3' hbv2 hbl⟩
      replace hrel := hidI hrel
      replace hne := hidI hne
      go_simp
      rw [← hne.out]
      clear z0 z1 z2 fz
      refine hK.out _ _ ?_ (fun hHeld => ?_)
      · try dsimp only
        ((repeat' apply And.intro) <;> assumption)
      clear hK
      try simp only [Act.put, List.setIfInBounds_toArray, List.set_cons_zero, List.set_cons_succ]
      refine wpAnyH_done (by kernel_rfl) ?_ _
      refine hnorm _ _ ?_
      clear hnorm hpan
      repeat clear hHeld
      try simp only [Exit.then]
      go_wp2_with fail
      go_meet
      exact ⟨_, rfl, hrel.out⟩
    refine AllReadyH.cons rfl (fun K hK => ?_) AllReadyH.nil
    rw [if_pos (by rfl)]
    go_simp
    obtain ⟨v0, hn0⟩ : ∃ z, z = wd.alloc (.cells #[.int .i64 0, .int .i64 0, .slice none 0 0] 29) := ⟨_, rfl⟩
    have hbx : Below wd.heap.size wd v0 := by rw [hn0]; exact (Below.refl _ _).alloc (Nat.le_refl _) _
    have hltA : wd.heap.size < v0.heap.size := by rw [hn0]; simp
    have hBA := heap_alloc_new wd (.cells #[.int .i64 0, .int .i64 0, .slice none 0 0] 29)
    rw [← hn0] at hBA
    rw [← hn0]
    replace hn0 := hidI hn0
    replace hBA := hidI hBA
    have hbv0 := hbd.trans (hbx.mono hbd.size)
    have hsz0 := hbx.size
    replace x0 := below_cell x0 hbx (by omega)
    replace x1 := below_cell x1 hbx (by omega)
    replace htd := hidI (htd.out.below hbx)
    clear hbx
    refine hK.out _ _ ?_ (fun hHeld => ?_)
    · try dsimp only
      ((repeat' apply And.intro) <;> assumption)
    clear hK
    try simp only [Act.put, List.setIfInBounds_toArray, List.set_cons_zero, List.set_cons_succ]
    refine wpAnyH_ready (rs := [3]) (by kernel_rfl) (by simp) ?_
    refine AllReadyH.cons rfl (fun K hK => ?_) AllReadyH.nil
    rw [if_pos (by rfl)]
    go_simp
    have hcc := numberIn_any B0 v0 hz0 htd.out
    rw [hq0] at hcc
    refine hcc.mono ?_
    rintro e v1 ⟨rfl, hbx⟩
    clear hcc
    have hbv1 := hbv0.trans (hbx.mono hbv0.size)
    have hsz1 := hbx.size
    replace x0 := below_cell x0 hbx (by omega)
    replace x1 := below_cell x1 hbx (by omega)
    replace htd := hidI (htd.out.below hbx)
    replace hBA := hidI ((hbx.block _ (by omega)).trans hBA.out)
    clear hbx
    refine hK.out _ _ ?_ (fun hHeld => ?_)
    · try dsimp only
      ((repeat' apply And.intro) <;> assumption)
    clear hK
    try simp only [Act.put, List.setIfInBounds_toArray, List.set_cons_zero, List.set_cons_succ]
    refine wpAnyH_ready (rs := [7]) (by kernel_rfl) (by simp) ?_
    refine AllReadyH.cons rfl (fun K hK => ?_) AllReadyH.nil
    rw [if_pos (by rfl)]
    go_simp
    have hcc := numberIn_any B1 v1 hz1 htd.out
    rw [hq1] at hcc
    refine hcc.mono ?_
    rintro e v2 ⟨rfl, hbx⟩
    clear hcc
    have hbv2 := hbv1.trans (hbx.mono hbv1.size)
    have hsz2 := hbx.size
    replace x0 := below_cell x0 hbx (by omega)
    replace x1 := below_cell x1 hbx (by omega)
    replace htd := hidI (htd.out.below hbx)
    replace hBA := hidI ((hbx.block _ (by omega)).trans hBA.out)
    clear hbx
    refine hK.out _ _ ?_ (fun hHeld => ?_)
    · try dsimp only
      ((repeat' apply And.intro) <;> assumption)
    clear hK
    try simp only [Act.put, List.setIfInBounds_toArray, List.set_cons_zero, List.set_cons_succ]
    refine take_at 8 22 (v := ?_) rfl (by kernel_rfl) (by kernel_rfl) (by kernel_rfl) (by kernel_rfl) hpan (Or.inl ⟨by rfl, ?_⟩) (by assumption) ?_
    rotate_left
    · intro w hSw; (try dsimp only at hSw); go_simp; with_reducible rfl
    simp only [Act.put, List.setIfInBounds_toArray, List.set_cons_zero, List.set_cons_succ]
    refine wpAnyH_ready (rs := [10]) (by kernel_rfl) (by simp) ?_
    refine AllReadyH.cons rfl (fun K hK => ?_) AllReadyH.nil
    rw [if_pos (by rfl)]
    have z0 := cell_of_heap hBA.out 0
    have z1 := cell_of_heap hBA.out 1
    have z2 := cell_of_heap hBA.out 2
    have fz := fun j => frozen_of_row v2 wd.heap.size j _ _ hBA.out
    simp at z0 z1 z2
    obtain ⟨ve, hne⟩ : ∃ z, z = ((v2.setCell ⟨wd.heap.size, 0, none⟩ (.int .i64 n0)).setCell ⟨wd.heap.size, 1, none⟩ (.int .i64 n1)).setCell ⟨wd.heap.size, 2, none⟩ (.slice none 0 0) := ⟨_, rfl⟩
    have hbl : w2.heap.size ≤ wd.heap.size := by omega
    have hbve : Below w2.heap.size w2 ve := by rw [hne]; exact below_set3' hbv2 hbl
    replace x0 := hcl0.out ve hbve
    replace x1 := hcl1.out ve hbve
    have hrel : BoxAt w2 n0 n1 wd.heap.size ve := by
      rw [hne]
      exact ⟨hbl, by simp [World.setCell]; omega, set3 hBA.out _ _ _, below_set3' hbv2 hbl⟩
    replace hrel := hidI hrel
    replace hne := hidI hne
    go_simp
    rw [← hne.out]
    clear z0 z1 z2 fz
    refine hK.out _ _ ?_ (fun hHeld => ?_)
    · try dsimp only
      ((repeat' apply And.intro) <;> assumption)
    clear hK
    try simp only [Act.put, List.setIfInBounds_toArray, List.set_cons_zero, List.set_cons_succ]
    refine wpAnyH_done (by kernel_rfl) ?_ _
    refine hnorm _ _ ?_
    clear hnorm hpan
    repeat clear hHeld
    try simp only [Exit.then]
    go_wp2_with fail
    go_meet
    exact ⟨_, rfl, hrel.out⟩
  case rest =>
  obtain ⟨B, rfl, hlB, hBw, hbox0, hb5⟩ := hcut
  clear x0 x1 hbd hdr hsd hwd htd hcl0 hcl1
  have hown5 : OwnsE wc wc.heap.size (.slice none 0 0) [] := OwnsS.nil _ _
  obtain ⟨base, hbase⟩ : ∃ b, b = wc.heap.size := ⟨_, rfl⟩
  rw [← hbase] at hown5 hBw
  have hbs : base ≤ wc.heap.size := by omega
  have hcells : ∀ j, j < tn - 2 → ∀ wx, Below w2.heap.size w2 wx → wx.cell? ⟨w1.heap.size, 2 + j, none⟩ = some (.string (toB (T.getD (2 + j) []))) := fun j hj => hpart2.out (2 + j) (by omega)
  replace hcells := hidI hcells
  replace hbase := hidI hbase
  replace hown5 := hidI hown5
  replace hbox0 := hidI hbox0
  replace hb5 := hidI hb5
  obtain ⟨tm, htm⟩ : ∃ tm, tm = tn - 2 := ⟨_, rfl⟩
  rw [← htm] at hcells
  have htm2 : tm + 2 = tn := by omega
  replace htm := hidI htm
  replace htm2 := hidI htm2
  obtain ⟨wp, rfl⟩ : ∃ z, z = wc := ⟨_, rfl⟩
  go_upto_region 5 with fail
  go_cut [24, 25, 26] from 23 to 28 (fun v n i wx => Hid (wx = wp) ∧ i = .int .i64 0 ∧ n = .int .i64 (tm : Int) ∧ ∃ a c, v = .slice a tm c ∧ Hid (∀ j, j < tm → a = some ⟨w1.heap.size, 2, none⟩))
  case first =>
    have hn2 : (2 : Int) ≤ (tn : Int) := by omega
    have hc2 : (2 : Int) ≤ (N : Int) := by omega
    by_cases hcap : N = 2
    · have htn2 : tn = 2 := by omega
      have htm0 : tm = 0 := by have := htm2.out; omega
      subst htn2 htm0 hcap
      go_wp2
      go_meet
      exact ⟨hidI rfl, rfl, rfl, _, _, rfl, hidI (fun j hj => by omega)⟩
    · have hc3 : ¬ N = 2 := hcap
      have hc4 : ¬ (2 : Nat) = N := by omega
      have hc5 : ¬ (2 : Int) = (N : Int) := by omega
      have hc6 : tn - 2 = tm := htm.out.symm
      have hc7 : ((tn - 2 : Nat) : Int) = (tm : Int) := by rw [hc6]
      replace hc6 := hidI hc6
      replace hc7 := hidI hc7
      go_wp2
      go_meet
      exact ⟨hidI rfl, rfl, by rw [← hc6.out], _, _, by rw [← hc6.out], hidI (fun j hj => rfl)⟩
  case rest =>
  obtain ⟨hwq, rfl, rfl, a4, c4, rfl, ha4⟩ := hcut
  have hwq' := hwq.out.symm
  subst hwq'
  clear hwq
  have hB2 : B < wp.heap.size := by omega
  have htmb : tm ≤ 123 := by have := htm2.out; omega
  go_wp2
  go_loopg [26] tm (fun g i wr => ∃ (k : Nat) (a : Option Addr) (m c : Nat), k + g = tm ∧ i = .int .i64 k ∧ Hid (wr.heap[B]? = some (.cells #[.int .i64 n0, .int .i64 n1, .slice a m c] 29 (0, 0))) ∧ Hid (OwnsE wr base (.slice a m c) ((canP T).take k)) ∧ Hid (base ≤ wr.heap.size) ∧ Hid (Below w2.heap.size w2 wr))
  case atStart => exact ⟨0, none, 0, 0, by omega, rfl, hbox0, hown5, hidI hbs, hb5⟩
  case round =>
    clear hown5 hbox0 hb5
    obtain ⟨k, a, m, c, hk, rfl, hbox, hown, hsz, hb⟩ := hrel
    have hszz := hsz.out
    have hsb := hb.out.size
    have q0 := cell_of_heap hbox.out 0
    have q1 := cell_of_heap hbox.out 1
    have q2 := cell_of_heap hbox.out 2
    simp at q0 q1 q2
    by_cases hlt : k < tm
    · have ha := ha4.out k hlt
      subst ha
      have hpk := hcells.out k hlt wr hb.out
      obtain ⟨Bk, hBk⟩ : ∃ Bk, Bk = toB (T.getD (2 + k) []) := ⟨_, rfl⟩
      have hszk : Bk.size ≤ 1048576 := by rw [hBk]; exact hTp.out _ (hget2.out (2 + k) (by have := htm2.out; omega))
      rw [← hBk] at hpk
      obtain ⟨ed, hed⟩ : ∃ ed, ed = readG isAny numP [] Bk.data.toList := ⟨_, rfl⟩
      have hnx : (canP T).take (k + 1) = (canP T).take k ++ [ed] := by
        have hkl : k < (canP T).length := by unfold canP; simp; have := htm2.out; have := htn.out; omega
        rw [List.take_succ_eq_append_getElem hkl]
        have hkl2 : 2 + k < T.length := by have := htm2.out; have := htn.out; omega
        congr 1
        simp only [canP, List.getElem_map, List.getElem_drop]
        rw [hed, hBk, toB_list, List.getD_eq_getElem?_getD, List.getElem?_eq_getElem hkl2]
        rfl
      obtain ⟨ef, el, et⟩ := ed
      obtain ⟨X, hX⟩ : ∃ X, X = (canP T).take k := ⟨_, rfl⟩
      have hXl : X.length ≤ 999999999 := by rw [hX, List.length_take]; have := htm2.out; omega
      rw [← hX] at hown hnx
      have hki : (k : Int) < (tm : Int) := by omega
      obtain ⟨wd, hwd⟩ : ∃ z, z = wr.drew := ⟨_, rfl⟩
      have hbd : Below wr.heap.size wr wd := by rw [hwd]; exact below_dn (Below.refl _ _) 1
      have hsd := hbd.size
      have htd : Hid (Tab wd) := hidI (htab2.out.below (hb.out.trans (hbd.mono hb.out.size)))
      have hown1 : Hid (OwnsE wd base (.slice a m c) X) := hidI (hown.out.later hbd (Nat.le_refl _))
      have hboxd : Hid (wd.heap[B]? = some (.cells #[.int .i64 n0, .int .i64 n1, .slice a m c] 29 (0, 0))) := hidI (by rw [hbd.block _ (by omega)]; exact hbox.out)
      have u2 := below_cell q2 hbd (by omega)
      replace hX := hidI hX
      replace hBk := hidI hBk
      replace hed := hidI hed
      replace hnx := hidI hnx
      replace hk := hidI hk
      replace hwd := hidI hwd
      clear q0 q1 q2 hown
      go_wp2
      refine hideQ (fun _ _ d _ _ h => by cases d <;> exact h) (fun Q' hnorm hpan => ?_)
      refine wp_region_held_drew (S := (fun _ => True)) (by kernel_rfl) ?_ (fun hHeld => ?_)
      · try dsimp only
        all_goals trivial
      rw [← hwd.out]
      refine take_at 0 30 (v := ?_) rfl (by kernel_rfl) (by kernel_rfl) (by kernel_rfl) (by kernel_rfl) hpan (Or.inl ⟨by rfl, ?_⟩) (by assumption) ?_
      rotate_left
      · intro w hSw; (try dsimp only at hSw); go_simp; with_reducible rfl
      simp only [Act.put, List.setIfInBounds_toArray, List.set_cons_zero, List.set_cons_succ]
      refine take_at 2 32 (v := ?_) rfl (by kernel_rfl) (by kernel_rfl) (by kernel_rfl) (by kernel_rfl) hpan (Or.inl ⟨by rfl, ?_⟩) (by assumption) ?_
      rotate_left
      · intro w hSw; (try dsimp only at hSw); go_simp; with_reducible rfl
      simp only [Act.put, List.setIfInBounds_toArray, List.set_cons_zero, List.set_cons_succ]
      refine wpAnyH_ready (rs := [1, 3]) (by kernel_rfl) (by simp) ?_
      refine AllReadyH.cons rfl (fun K hK => ?_) ?_
      ·
        rw [if_pos (by rfl)]
        go_simp
        refine hK.out _ _ ?_ (fun hHeld => ?_)
        · try dsimp only
          all_goals trivial
        clear hK
        try simp only [Act.put, List.setIfInBounds_toArray, List.set_cons_zero, List.set_cons_succ]
        refine wpAnyH_ready (rs := [3]) (by kernel_rfl) (by simp) ?_
        refine AllReadyH.cons rfl (fun K hK => ?_) AllReadyH.nil
        rw [if_pos (by rfl)]
        go_simp
        have hcc := edgeIn_any Bk wd hszk htd.out
        rw [← hed.out] at hcc
        refine hcc.mono ?_
        rintro e v1 ⟨rfl, hbv1⟩
        clear hcc
        have hsz1 := hbv1.size
        replace hboxd := hidI ((hbv1.block _ (by omega)).trans hboxd.out)
        replace u2 := below_cell u2 hbv1 (by omega)
        replace htd := hidI (htd.out.below hbv1)
        replace hown1 := hidI (hown1.out.later hbv1 (Nat.le_refl _))
        refine hK.out _ _ ?_ (fun hHeld => ?_)
        · try dsimp only
          all_goals trivial
        clear hK
        try simp only [Act.put, List.setIfInBounds_toArray, List.set_cons_zero, List.set_cons_succ]
        refine wpAnyH_ready (rs := [4]) (by kernel_rfl) (by simp) ?_
        refine AllReadyH.cons rfl (fun K hK => ?_) AllReadyH.nil
        rw [if_pos (by rfl)]
        obtain ⟨v2, hn2⟩ : ∃ z, z = v1.alloc (.cells #[.int .i64 ef, .int .i64 el, .int .i64 et] 41) := ⟨_, rfl⟩
        have hbv2 : Below v1.heap.size v1 v2 := by rw [hn2]; exact (Below.refl _ _).alloc (Nat.le_refl _) _
        have hlb := heap_alloc_new v1 (.cells #[.int .i64 ef, .int .i64 el, .int .i64 et] 41)
        rw [← hn2] at hlb
        go_simp
        rw [← hn2]
        replace hn2 := hidI hn2
        have hll : v1.heap.size < v2.heap.size := (Array.getElem?_eq_some_iff.1 hlb).1
        have hread1 : ReadE v2.heap.size v2 (.slice (some ⟨v1.heap.size, 0, none⟩) 1 1) [(ef, el, et)] := by
          refine ⟨by simp [flatE], by simp, _, 1, rfl, ⟨(fun h => by cases h), by simp⟩, .inr ⟨v1.heap.size, 0, rfl, hll, fun k hk => ?_⟩⟩
          have hd := cell_of_heap hlb k
          have hk3 : k = 0 ∨ k = 1 ∨ k = 2 := by simp at hk; omega
          rcases hk3 with rfl | rfl | rfl <;> simpa [flatE] using hd
        replace hread1 := hidI hread1
        clear hlb
        have hsz2 := hbv2.size
        replace hboxd := hidI ((hbv2.block _ (by omega)).trans hboxd.out)
        replace u2 := below_cell u2 hbv2 (by omega)
        replace htd := hidI (htd.out.below hbv2)
        replace hown1 := hidI (hown1.out.later hbv2 (Nat.le_refl _))
        refine hK.out _ _ ?_ (fun hHeld => ?_)
        · try dsimp only
          all_goals trivial
        clear hK
        try simp only [Act.put, List.setIfInBounds_toArray, List.set_cons_zero, List.set_cons_succ]
        refine wpAnyH_ready (rs := [5]) (by kernel_rfl) (by simp) ?_
        refine AllReadyH.cons rfl (fun K hK => ?_) AllReadyH.nil
        rw [if_pos (by rfl)]
        refine step_pushAllE _ _ rfl base _ _ X [(ef, el, et)] v2.heap.size rfl rfl hown1.out hread1.out (by simp; omega) (by omega) ?_
        intro vn v3 hown3 hbv3
        obtain ⟨an, mn, cn, rfl⟩ := hown3.form3
        have hsz3 := hbv3.size
        replace hboxd := hidI ((hbv3.block B (by omega)).trans hboxd.out)
        replace hown3 := hidI hown3
        refine hK.out _ _ ?_ (fun hHeld => ?_)
        · try dsimp only
          all_goals trivial
        clear hK
        try simp only [Act.put, List.setIfInBounds_toArray, List.set_cons_zero, List.set_cons_succ]
        refine take_at 6 36 (v := ?_) rfl (by kernel_rfl) (by kernel_rfl) (by kernel_rfl) (by kernel_rfl) hpan (Or.inl ⟨by rfl, ?_⟩) (by assumption) ?_
        rotate_left
        · intro w hSw; (try dsimp only at hSw); go_simp; with_reducible rfl
        simp only [Act.put, List.setIfInBounds_toArray, List.set_cons_zero, List.set_cons_succ]
        refine wpAnyH_ready (rs := [7]) (by kernel_rfl) (by simp) ?_
        refine AllReadyH.cons rfl (fun K hK => ?_) AllReadyH.nil
        rw [if_pos (by rfl)]
        have z0 := cell_of_heap hboxd.out 0
        have z1 := cell_of_heap hboxd.out 1
        have z2 := cell_of_heap hboxd.out 2
        have fz := fun j => frozen_of_row v3 B j _ _ hboxd.out
        simp at z0 z1 z2
        have hset := heap_setCell_same v3 B 2 _ 29 (.slice an mn cn) hboxd.out
        simp at hset
        obtain ⟨ve, hne⟩ : ∃ z, z = v3.setCell ⟨B, 2, none⟩ (.slice an mn cn) := ⟨_, rfl⟩
        have k0 := hb.out.trans (hbd.mono hb.out.size)
        have k1 := k0.trans (hbv1.mono (by omega))
        have k2 := k1.trans (hbv2.mono (by omega))
        have k3 := k2.trans (hbv3.mono (by omega))
        have hbz : Below w2.heap.size w2 ve := by rw [hne]; exact k3.setCell (p := ⟨B, 2, none⟩) hlB _
        rw [← hne] at hset
        have hownz : OwnsE ve base (.slice an mn cn) ((canP T).take (k + 1)) := by rw [hnx.out, hne]; exact OwnsS.other hown3.out (by omega)
        have hszv : base ≤ ve.heap.size := by rw [hne]; simp [World.setCell]; omega
        replace hset := hidI hset
        replace hbz := hidI hbz
        replace hownz := hidI hownz
        replace hszv := hidI hszv
        replace hne := hidI hne
        go_simp
        rw [← hne.out]
        clear z0 z1 z2 fz k0 k1 k2 k3
        refine hK.out _ _ ?_ (fun hHeld => ?_)
        · try dsimp only
          all_goals trivial
        clear hK
        try simp only [Act.put, List.setIfInBounds_toArray, List.set_cons_zero, List.set_cons_succ]
        refine wpAnyH_done (by kernel_rfl) ?_ _
        refine hnorm _ _ ?_
        clear hnorm hpan
        repeat clear hHeld
        try simp only [Exit.then]
        go_wp2
        go_roundg (tm - (k + 1))
        case rel => exact ⟨k + 1, an, mn, cn, by have := hk.out; omega, by go_num, hset, hownz, hszv, hbz⟩
        case measure => have := hk.out; omega
      refine AllReadyH.cons rfl (fun K hK => ?_) AllReadyH.nil
      rw [if_pos (by rfl)]
      go_simp
      have hcc := edgeIn_any Bk wd hszk htd.out
      rw [← hed.out] at hcc
      refine hcc.mono ?_
      rintro e v0 ⟨rfl, hbv0⟩
      clear hcc
      have hsz0 := hbv0.size
      replace hboxd := hidI ((hbv0.block _ (by omega)).trans hboxd.out)
      replace u2 := below_cell u2 hbv0 (by omega)
      replace htd := hidI (htd.out.below hbv0)
      replace hown1 := hidI (hown1.out.later hbv0 (Nat.le_refl _))
      refine hK.out _ _ ?_ (fun hHeld => ?_)
      · try dsimp only
        all_goals trivial
      clear hK
      try simp only [Act.put, List.setIfInBounds_toArray, List.set_cons_zero, List.set_cons_succ]
      refine wpAnyH_ready (rs := [1, 4]) (by kernel_rfl) (by simp) ?_
      refine AllReadyH.cons rfl (fun K hK => ?_) ?_
      ·
        rw [if_pos (by rfl)]
        go_simp
        refine hK.out _ _ ?_ (fun hHeld => ?_)
        · try dsimp only
          all_goals trivial
        clear hK
        try simp only [Act.put, List.setIfInBounds_toArray, List.set_cons_zero, List.set_cons_succ]
        refine wpAnyH_ready (rs := [4]) (by kernel_rfl) (by simp) ?_
        refine AllReadyH.cons rfl (fun K hK => ?_) AllReadyH.nil
        rw [if_pos (by rfl)]
        obtain ⟨v2, hn2⟩ : ∃ z, z = v0.alloc (.cells #[.int .i64 ef, .int .i64 el, .int .i64 et] 41) := ⟨_, rfl⟩
        have hbv2 : Below v0.heap.size v0 v2 := by rw [hn2]; exact (Below.refl _ _).alloc (Nat.le_refl _) _
        have hlb := heap_alloc_new v0 (.cells #[.int .i64 ef, .int .i64 el, .int .i64 et] 41)
        rw [← hn2] at hlb
        go_simp
        rw [← hn2]
        replace hn2 := hidI hn2
        have hll : v0.heap.size < v2.heap.size := (Array.getElem?_eq_some_iff.1 hlb).1
        have hread1 : ReadE v2.heap.size v2 (.slice (some ⟨v0.heap.size, 0, none⟩) 1 1) [(ef, el, et)] := by
          refine ⟨by simp [flatE], by simp, _, 1, rfl, ⟨(fun h => by cases h), by simp⟩, .inr ⟨v0.heap.size, 0, rfl, hll, fun k hk => ?_⟩⟩
          have hd := cell_of_heap hlb k
          have hk3 : k = 0 ∨ k = 1 ∨ k = 2 := by simp at hk; omega
          rcases hk3 with rfl | rfl | rfl <;> simpa [flatE] using hd
        replace hread1 := hidI hread1
        clear hlb
        have hsz2 := hbv2.size
        replace hboxd := hidI ((hbv2.block _ (by omega)).trans hboxd.out)
        replace u2 := below_cell u2 hbv2 (by omega)
        replace htd := hidI (htd.out.below hbv2)
        replace hown1 := hidI (hown1.out.later hbv2 (Nat.le_refl _))
        refine hK.out _ _ ?_ (fun hHeld => ?_)
        · try dsimp only
          all_goals trivial
        clear hK
        try simp only [Act.put, List.setIfInBounds_toArray, List.set_cons_zero, List.set_cons_succ]
        refine wpAnyH_ready (rs := [5]) (by kernel_rfl) (by simp) ?_
        refine AllReadyH.cons rfl (fun K hK => ?_) AllReadyH.nil
        rw [if_pos (by rfl)]
        refine step_pushAllE _ _ rfl base _ _ X [(ef, el, et)] v2.heap.size rfl rfl hown1.out hread1.out (by simp; omega) (by omega) ?_
        intro vn v3 hown3 hbv3
        obtain ⟨an, mn, cn, rfl⟩ := hown3.form3
        have hsz3 := hbv3.size
        replace hboxd := hidI ((hbv3.block B (by omega)).trans hboxd.out)
        replace hown3 := hidI hown3
        refine hK.out _ _ ?_ (fun hHeld => ?_)
        · try dsimp only
          all_goals trivial
        clear hK
        try simp only [Act.put, List.setIfInBounds_toArray, List.set_cons_zero, List.set_cons_succ]
        refine take_at 6 36 (v := ?_) rfl (by kernel_rfl) (by kernel_rfl) (by kernel_rfl) (by kernel_rfl) hpan (Or.inl ⟨by rfl, ?_⟩) (by assumption) ?_
        rotate_left
        · intro w hSw; (try dsimp only at hSw); go_simp; with_reducible rfl
        simp only [Act.put, List.setIfInBounds_toArray, List.set_cons_zero, List.set_cons_succ]
        refine wpAnyH_ready (rs := [7]) (by kernel_rfl) (by simp) ?_
        refine AllReadyH.cons rfl (fun K hK => ?_) AllReadyH.nil
        rw [if_pos (by rfl)]
        have z0 := cell_of_heap hboxd.out 0
        have z1 := cell_of_heap hboxd.out 1
        have z2 := cell_of_heap hboxd.out 2
        have fz := fun j => frozen_of_row v3 B j _ _ hboxd.out
        simp at z0 z1 z2
        have hset := heap_setCell_same v3 B 2 _ 29 (.slice an mn cn) hboxd.out
        simp at hset
        obtain ⟨ve, hne⟩ : ∃ z, z = v3.setCell ⟨B, 2, none⟩ (.slice an mn cn) := ⟨_, rfl⟩
        have k0 := hb.out.trans (hbd.mono hb.out.size)
        have k1 := k0.trans (hbv0.mono (by omega))
        have k2 := k1.trans (hbv2.mono (by omega))
        have k3 := k2.trans (hbv3.mono (by omega))
        have hbz : Below w2.heap.size w2 ve := by rw [hne]; exact k3.setCell (p := ⟨B, 2, none⟩) hlB _
        rw [← hne] at hset
        have hownz : OwnsE ve base (.slice an mn cn) ((canP T).take (k + 1)) := by rw [hnx.out, hne]; exact OwnsS.other hown3.out (by omega)
        have hszv : base ≤ ve.heap.size := by rw [hne]; simp [World.setCell]; omega
        replace hset := hidI hset
        replace hbz := hidI hbz
        replace hownz := hidI hownz
        replace hszv := hidI hszv
        replace hne := hidI hne
        go_simp
        rw [← hne.out]
        clear z0 z1 z2 fz k0 k1 k2 k3
        refine hK.out _ _ ?_ (fun hHeld => ?_)
        · try dsimp only
          all_goals trivial
        clear hK
        try simp only [Act.put, List.setIfInBounds_toArray, List.set_cons_zero, List.set_cons_succ]
        refine wpAnyH_done (by kernel_rfl) ?_ _
        refine hnorm _ _ ?_
        clear hnorm hpan
        repeat clear hHeld
        try simp only [Exit.then]
        go_wp2
        go_roundg (tm - (k + 1))
        case rel => exact ⟨k + 1, an, mn, cn, by have := hk.out; omega, by go_num, hset, hownz, hszv, hbz⟩
        case measure => have := hk.out; omega
      refine AllReadyH.cons rfl (fun K hK => ?_) AllReadyH.nil
      rw [if_pos (by rfl)]
      obtain ⟨v1, hn1⟩ : ∃ z, z = v0.alloc (.cells #[.int .i64 ef, .int .i64 el, .int .i64 et] 41) := ⟨_, rfl⟩
      have hbv1 : Below v0.heap.size v0 v1 := by rw [hn1]; exact (Below.refl _ _).alloc (Nat.le_refl _) _
      have hlb := heap_alloc_new v0 (.cells #[.int .i64 ef, .int .i64 el, .int .i64 et] 41)
      rw [← hn1] at hlb
      go_simp
      rw [← hn1]
      replace hn1 := hidI hn1
      have hll : v0.heap.size < v1.heap.size := (Array.getElem?_eq_some_iff.1 hlb).1
      have hread1 : ReadE v1.heap.size v1 (.slice (some ⟨v0.heap.size, 0, none⟩) 1 1) [(ef, el, et)] := by
        refine ⟨by simp [flatE], by simp, _, 1, rfl, ⟨(fun h => by cases h), by simp⟩, .inr ⟨v0.heap.size, 0, rfl, hll, fun k hk => ?_⟩⟩
        have hd := cell_of_heap hlb k
        have hk3 : k = 0 ∨ k = 1 ∨ k = 2 := by simp at hk; omega
        rcases hk3 with rfl | rfl | rfl <;> simpa [flatE] using hd
      replace hread1 := hidI hread1
      clear hlb
      have hsz1 := hbv1.size
      replace hboxd := hidI ((hbv1.block _ (by omega)).trans hboxd.out)
      replace u2 := below_cell u2 hbv1 (by omega)
      replace htd := hidI (htd.out.below hbv1)
      replace hown1 := hidI (hown1.out.later hbv1 (Nat.le_refl _))
      refine hK.out _ _ ?_ (fun hHeld => ?_)
      · try dsimp only
        all_goals trivial
      clear hK
      try simp only [Act.put, List.setIfInBounds_toArray, List.set_cons_zero, List.set_cons_succ]
      refine wpAnyH_ready (rs := [1]) (by kernel_rfl) (by simp) ?_
      refine AllReadyH.cons rfl (fun K hK => ?_) AllReadyH.nil
      rw [if_pos (by rfl)]
      go_simp
      refine hK.out _ _ ?_ (fun hHeld => ?_)
      · try dsimp only
        all_goals trivial
      clear hK
      try simp only [Act.put, List.setIfInBounds_toArray, List.set_cons_zero, List.set_cons_succ]
      refine wpAnyH_ready (rs := [5]) (by kernel_rfl) (by simp) ?_
      refine AllReadyH.cons rfl (fun K hK => ?_) AllReadyH.nil
      rw [if_pos (by rfl)]
      refine step_pushAllE _ _ rfl base _ _ X [(ef, el, et)] v1.heap.size rfl rfl hown1.out hread1.out (by simp; omega) (by omega) ?_
      intro vn v3 hown3 hbv3
      obtain ⟨an, mn, cn, rfl⟩ := hown3.form3
      have hsz3 := hbv3.size
      replace hboxd := hidI ((hbv3.block B (by omega)).trans hboxd.out)
      replace hown3 := hidI hown3
      refine hK.out _ _ ?_ (fun hHeld => ?_)
      · try dsimp only
        all_goals trivial
      clear hK
      try simp only [Act.put, List.setIfInBounds_toArray, List.set_cons_zero, List.set_cons_succ]
      refine take_at 6 36 (v := ?_) rfl (by kernel_rfl) (by kernel_rfl) (by kernel_rfl) (by kernel_rfl) hpan (Or.inl ⟨by rfl, ?_⟩) (by assumption) ?_
      rotate_left
      · intro w hSw; (try dsimp only at hSw); go_simp; with_reducible rfl
      simp only [Act.put, List.setIfInBounds_toArray, List.set_cons_zero, List.set_cons_succ]
      refine wpAnyH_ready (rs := [7]) (by kernel_rfl) (by simp) ?_
      refine AllReadyH.cons rfl (fun K hK => ?_) AllReadyH.nil
      rw [if_pos (by rfl)]
      have z0 := cell_of_heap hboxd.out 0
      have z1 := cell_of_heap hboxd.out 1
      have z2 := cell_of_heap hboxd.out 2
      have fz := fun j => frozen_of_row v3 B j _ _ hboxd.out
      simp at z0 z1 z2
      have hset := heap_setCell_same v3 B 2 _ 29 (.slice an mn cn) hboxd.out
      simp at hset
      obtain ⟨ve, hne⟩ : ∃ z, z = v3.setCell ⟨B, 2, none⟩ (.slice an mn cn) := ⟨_, rfl⟩
      have k0 := hb.out.trans (hbd.mono hb.out.size)
      have k1 := k0.trans (hbv0.mono (by omega))
      have k2 := k1.trans (hbv1.mono (by omega))
      have k3 := k2.trans (hbv3.mono (by omega))
      have hbz : Below w2.heap.size w2 ve := by rw [hne]; exact k3.setCell (p := ⟨B, 2, none⟩) hlB _
      rw [← hne] at hset
      have hownz : OwnsE ve base (.slice an mn cn) ((canP T).take (k + 1)) := by rw [hnx.out, hne]; exact OwnsS.other hown3.out (by omega)
      have hszv : base ≤ ve.heap.size := by rw [hne]; simp [World.setCell]; omega
      replace hset := hidI hset
      replace hbz := hidI hbz
      replace hownz := hidI hownz
      replace hszv := hidI hszv
      replace hne := hidI hne
      go_simp
      rw [← hne.out]
      clear z0 z1 z2 fz k0 k1 k2 k3
      refine hK.out _ _ ?_ (fun hHeld => ?_)
      · try dsimp only
        all_goals trivial
      clear hK
      try simp only [Act.put, List.setIfInBounds_toArray, List.set_cons_zero, List.set_cons_succ]
      refine wpAnyH_done (by kernel_rfl) ?_ _
      refine hnorm _ _ ?_
      clear hnorm hpan
      repeat clear hHeld
      try simp only [Exit.then]
      go_wp2
      go_roundg (tm - (k + 1))
      case rel => exact ⟨k + 1, an, mn, cn, by have := hk.out; omega, by go_num, hset, hownz, hszv, hbz⟩
      case measure => have := hk.out; omega
    · obtain rfl : k = tm := by omega
      have hXE : (canP T).take k = E := by rw [hE.out]; exact List.take_of_length_le (by unfold canP; simp; have := htm2.out; have := htn.out; omega)
      rw [hXE] at hown
      have hki : ¬ (k : Int) < (k : Int) := by omega
      have hEl : E.length ≤ 1048577 := by rw [← hXE, List.length_take]; have := htm2.out; omega
      have hrow := hown.out.row (by omega)
      have hm := hrow.cap.1
      have hread : ReadE wr.heap.size wr (.slice a m c) E := hrow.read
      have hfg := iFmtG wr n0 n1 (.slice a m c) E hread (by omega) (htab2.out.below hb.out)
      obtain ⟨F, hF⟩ : ∃ F, F = fmtS n0 n1 E := ⟨_, rfl⟩
      rw [← hF] at hfg
      have hFl : F.toList = fmtGr n0 n1 E := by rw [hF, ByteArray.toList_eq]; simp [fmtS]
      have hsl : s.toList = L := by rw [ByteArray.toList_eq, hL.out]
      have hzz : wr.heap[w.heap.size]? = some (.cells #[.int .i64 0, .int .i64 0, .slice none 0 0] 29 (0, 0)) := by rw [hb.out.block _ hltz]; exact hz2.out
      have hbz := hbz2.out.trans (hb.out.mono hbz2.out.size)
      replace hsl := hidI hsl
      replace hFl := hidI hFl
      replace hm := hidI hm
      replace hrow := hidI hrow
      replace hread := hidI hread
      replace hF := hidI hF
      replace hbz := hidI hbz
      replace hzz := hidI hzz
      replace hk := hidI hk
      replace hXE := hidI hXE
      go_wp2_with fail
      refine hfg.mono ?_
      rintro e w9 ⟨rfl, hb9⟩
      have hz9 : w9.heap[w.heap.size]? = some (.cells #[.int .i64 0, .int .i64 0, .slice none 0 0] 29 (0, 0)) := by rw [hb9.block _ (by omega)]; exact hzz.out
      have z0 := cell_of_heap hz9 0
      have z1 := cell_of_heap hz9 1
      have z2 := cell_of_heap hz9 2
      have fz := fun j => frozen_of_row w9 w.heap.size j _ _ hz9
      simp at z0 z1 z2
      have hbz9 := hbz.out.trans (hb9.mono hbz.out.size)
      by_cases hsame : fmtGr n0 n1 E = L
      · have hp : PB = true := by rw [hPB2.out]; simp [hsame]; omega
        have ht2 : (F.toList == s.toList) = true := by rw [hFl.out, hsl.out, beq_iff_eq]; exact hsame
        have ht3 : (F.toList != s.toList) = false := by rw [hFl.out, hsl.out, bne_eq_false_iff_eq]; exact hsame
        have hbx9 : w9.heap[B]? = some (.cells #[.int .i64 n0, .int .i64 n1, .slice a m c] 29 (0, 0)) := by rw [hb9.block _ (by omega)]; exact hbox.out
        have j0 := cell_of_heap hbx9 0
        have j1 := cell_of_heap hbx9 1
        have j2 := cell_of_heap hbx9 2
        simp at j0 j1 j2
        have hne : B ≠ w.heap.size := by omega
        have hrow9 := hrow.out.below hb9 (Nat.le_refl _)
        have hfin : LwGraphBool w QR QZ QE PB (.returned (.tuple #[.agg #[.int .i64 n0, .int .i64 n1, .slice a m c], .bool true])) (((w9.setCell ⟨w.heap.size, 0, none⟩ (.int .i64 n0)).setCell ⟨w.heap.size, 1, none⟩ (.int .i64 n1)).setCell ⟨w.heap.size, 2, none⟩ (.slice a m c)) := by
          rw [hQR.out, hQZ.out, hQE.out, hp]
          have hm' := hm.out
          subst hm'
          refine ⟨a, c, rfl, ?_, below_set3' hbz9 (Nat.le_refl _)⟩
          have hs9 := hb9.size
          refine RowS.wide (RowS.keep hrow9 (fun k h1 h2 => ?_)) (by omega) (by simp [World.setCell]; omega)
          rw [Below.heap_setCell _ _ _ _ (show k ≠ w.heap.size by omega), Below.heap_setCell _ _ _ _ (show k ≠ w.heap.size by omega), Below.heap_setCell _ _ _ _ (show k ≠ w.heap.size by omega)]
        replace hfin := hidI hfin
        replace hz9 := hidI hz9
        replace hbx9 := hidI hbx9
        replace hp := hidI hp
        replace hsame := hidI hsame
        replace hrow9 := hidI hrow9
        clear q0 q1 q2
        go_wp2
        (try simp only [Exit.inBlock, Exit.then])
        refine ret_cell2 (x := .bool true) rfl rfl rfl (set3 hz9.out _ _ _) Tryd.underlying29 sizeGraph ?_
        exact hfin.out
      · have hp : PB = false := by rw [hPB2.out]; simp [hsame]
        have ht2 : (F.toList == s.toList) = false := by rw [hFl.out, hsl.out, beq_eq_false_iff_ne]; exact hsame
        have ht3 : (F.toList != s.toList) = true := by rw [hFl.out, hsl.out, bne_iff_ne]; exact hsame
        replace hz9 := hidI hz9
        replace hp := hidI hp
        replace hsame := hidI hsame
        clear q0 q1 q2
        go_wp2
        (try simp only [Exit.inBlock, Exit.then])
        refine ret_cell2 (x := .bool false) rfl rfl rfl (set3 hz9.out _ _ _) Tryd.underlying29 sizeGraph ?_
        exact hfail.out w9 hz9.out hp.out hbz9
end Go.Proofs.YtkmhncbakfnfeaaDoor
