/- ParseWords, the program (tools/sp.py). -/
import Derived.Test.YtmafaglgegimfaaDoorSPa
import Derived.Test.YtmafaglgegimfaaDoorWQ
import Derived.Test.YtmafaglgegimfaaDoorShelf
import Derived.Deep.Cut
namespace Go.Proofs.YtmafaglgegimfaaDoor
open Go.RowKit
set_option linter.unusedVariables false
set_option linter.unusedSimpArgs false
set_option maxRecDepth 100000

theorem splitK_ne7 (k : Nat) (s : List UInt8) : Lib.splitK [44] 0 k s ≠ [] := by
  cases k with
  | zero => simp [Lib.splitK]
  | succ k => unfold Lib.splitK; split <;> simp
theorem splitK_le (k : Nat) : ∀ s : List UInt8, (Lib.splitK [44] 0 k s).length ≤ k + 1 := by
  induction k with
  | zero => intro s; simp [Lib.splitK]
  | succ k ih =>
    intro s
    unfold Lib.splitK
    split
    · simp
    · rw [List.length_cons]
      exact Nat.succ_le_succ (ih _)
set_option maxHeartbeats 6400000 in
theorem progParWs (w : World) (r : Int) (s : ByteArray) (hs : s.size ≤ 1048576) (mx : Int) (hmx : w.cell? ⟨0, 0, none⟩ = some (.int .i64 mx)) :
    Calls Tryd.prog 5 #[.int .i64 r, .string s] w (LwWordsBool w (pwLP r s.data.toList) (pwOkP r s.data.toList)) := by
  obtain ⟨L, hL⟩ : ∃ L, L = s.data.toList := ⟨_, rfl⟩
  have hlen : L.length = s.size := by rw [hL]; rfl
  obtain ⟨A, hA⟩ : ∃ A, A = pwLP r s.data.toList := ⟨_, rfl⟩
  obtain ⟨B, hB⟩ : ∃ B, B = pwOkP r s.data.toList := ⟨_, rfl⟩
  rw [← hA, ← hB]
  rw [← hL] at hA hB
  by_cases hno : L = noneT
  · have hA9 : A = [] := by rw [hA]; unfold pwLP; rw [if_pos hno]
    have hB9 : B = arew r [] := by rw [hB]; unfold pwOkP; rw [if_pos hno]
    have hz : (s.toList == [110, 111, 110, 101]) = true := by rw [beq_iff_eq, ByteArray.toList_eq, ← hL]; exact hno
    have hz2 : (s.toList != [110, 111, 110, 101]) = false := by rw [bne, hz]; rfl
    have hare := progAreW w (.slice none 0 0) [] r ⟨by simp, none, 0, rfl, ⟨fun _ => rfl, Nat.le_refl _⟩, .inl rfl⟩ (by simp [totL, sumN])
    rw [← hB9] at hare
    rw [hA9]
    replace hno := hidI hno
    replace hA9 := hidI hA9
    replace hB9 := hidI hB9
    replace hL := hidI hL
    replace hA := hidI hA
    replace hB := hidI hB
    go_enter Tryd.func5, Tryd.ntmps5
    go_wp2_with fail
    refine hare.mono ?_
    rintro e w2 ⟨rfl, hb2⟩
    clear hare
    have hfin : LwWordsBool w [] B (.returned (.tuple #[.slice none 0 0, .bool B])) w2 := ⟨_, [], rfl, rowSS_nil _ _ _, hb2⟩
    cases B with
    | true =>
      replace hfin := hidI hfin
      go_wp2
      go_ret2
      exact hfin.out
    | false =>
      replace hfin := hidI hfin
      go_wp2
      go_ret2
      exact hfin.out
  have hA9 : A = if partsOk r (split7 L) = true then (split7 L).map (parL r) else [] := by rw [hA]; unfold pwLP; rw [if_neg hno]
  have hB9 : B = partsOk r (split7 L) := by rw [hB]; unfold pwOkP; rw [if_neg hno]
  obtain ⟨P, hP⟩ : ∃ P, P = split7 L := ⟨_, rfl⟩
  rw [← hP] at hA9 hB9
  obtain ⟨n, hn⟩ : ∃ n, n = P.length := ⟨_, rfl⟩
  obtain ⟨Z, hZ⟩ : ∃ Z, Z = P.map (parL r) := ⟨_, rfl⟩
  have hZn : Z.length = n := by rw [hZ, List.length_map, hn]
  have hlp : lenP P ≤ s.size := by rw [hP]; have h7 := lenP_split (min 7 (L.length + 1) - 1) L; first | (simp at h7; omega) | (unfold split7; omega)
  have hZs : totL Z ≤ 1000000000 := by rw [hZ]; have := totL_par r P; omega
  have hn0 : 0 < n := by
    rw [hn]
    exact List.length_pos_iff.2 (by rw [hP]; exact splitK_ne7 _ L)
  have hnl : n ≤ s.size + 1 := by rw [hn, hP]; have := splitK_le (min 7 (L.length + 1) - 1) L; show (Lib.splitK [44] 0 _ L).length ≤ _; omega
  have hpl : ∀ j, j < n → (toB (P.getD j [])).size ≤ 1048576 := fun j hj => by
    have h1 := lenP_get P j (by omega)
    have h2 : (toB (P.getD j [])).size = (P.getD j []).length := by simp [toB, ByteArray.size]
    omega
  have hZk : ∀ j, j < n → Z.getD j [] = parL r (P.getD j []) := fun j hj => by
    rw [hZ, List.getD_eq_getElem?_getD, List.getElem?_map, List.getElem?_eq_getElem (by omega), List.getD_eq_getElem?_getD, List.getElem?_eq_getElem (by omega)]
    rfl
  have hbad : ∀ j, j < n → parOk r (P.getD j []) = false → B = false ∧ A = [] := fun j hj hb => by
    have := partsOk_bad (r := r) (P := P) (by omega) hb
    rw [hB9, hA9, this]
    exact ⟨rfl, rfl⟩
  have hend : (∀ j, j < n → parOk r (P.getD j []) = true) → B = arew r Z ∧ A = if arew r Z = true then Z else [] := fun h => by
    rw [hB9, hA9, partsOk_end (fun i hi => h i (by omega)), ← hZ]
    exact ⟨rfl, rfl⟩
  have hz : (s.toList == [110, 111, 110, 101]) = false := by rw [beq_eq_false_iff_ne, ByteArray.toList_eq, ← hL]; exact hno
  have hz2 : (s.toList != [110, 111, 110, 101]) = true := by rw [bne, hz]; rfl
  obtain ⟨N, hN⟩ : ∃ N, N = min 7 (s.size + 1) := ⟨_, rfl⟩
  obtain ⟨Q, hQ⟩ : ∃ Q, Q = Lib.splitB ⟨#[44]⟩ 0 (N - 1) s := ⟨_, rfl⟩
  have hQP : Q.map (·.data.toList) = P := by
    rw [hQ, Lib.splitB_data, hP, ← hL, hN]
    unfold split7
    rw [hlen]
  have hQl : Q.length = n := by rw [hn, ← hQP, List.length_map]
  have hQN : Q.length ≤ N := by
    have := Lib.splitB_length_le ⟨#[44]⟩ 0 (N - 1) s
    rw [← hQ] at this
    omega
  have hQat : ∀ j, j < n → Q[j]? = some (toB (P.getD j [])) := by
    intro j hj
    have hj2 : j < Q.length := by omega
    rw [List.getElem?_eq_getElem hj2]
    have : P.getD j [] = (Q[j]).data.toList := by
      rw [List.getD_eq_getElem?_getD, ← hQP, List.getElem?_map, List.getElem?_eq_getElem hj2]; rfl
    rw [this, toB_of]
  have hsp := Tryd.strings_SplitN s ⟨#[44]⟩ 7 mx w (by omega) hmx (by decide) (by omega) (by omega)
  rw [← hN, ← hQ] at hsp
  obtain ⟨w2, hw2⟩ : ∃ z, z = w.alloc (.cells (Lib.cellsOf Q N) 9) := ⟨_, rfl⟩
  rw [← hw2] at hsp
  have hb2 : Below w.heap.size w w2 := by rw [hw2]; exact (Below.refl _ _).alloc (Nat.le_refl _) _
  have hs2 : w2.heap.size = w.heap.size + 1 := by rw [hw2]; simp
  have hh2 := heap_alloc_new w (.cells (Lib.cellsOf Q N) 9)
  rw [← hw2] at hh2
  obtain ⟨bp, hbp⟩ : ∃ b, b = w.heap.size := ⟨_, rfl⟩
  have hpart : ∀ j, j < n → ∀ wx : World, wx.heap[bp]? = w2.heap[bp]? → wx.cell? ⟨bp, j, none⟩ = some (.string (toB (P.getD j []))) := by
    intro j hj wx hbx
    have hc : (Lib.cellsOf Q N)[j]? = some (.string (toB (P.getD j []))) := by
      unfold Lib.cellsOf
      rw [List.getElem?_toArray, List.getElem?_append_left (by simp; omega), List.getElem?_map, hQat j hj]
      rfl
    unfold World.cell?
    rw [show (⟨bp, j, none⟩ : Addr).block = bp from rfl, hbx, hbp, hh2]
    simpa using hc
  have hbp2 : bp < w2.heap.size := by omega
  have hgr0 : GrowSS w2 w.heap.size (.slice none 0 0) 0 Z := ⟨[], rfl, OwnsW.nil _ _, fun i hi => by simp at hi, List.Pairwise.nil⟩
  have hv0 : (Value.slice none 0 0).ownBlock ≠ some bp := by simp [Value.ownBlock]
  rw [hQl] at hsp
  replace hL := hidI hL
  replace hA := hidI hA
  replace hB := hidI hB
  replace hA9 := hidI hA9
  replace hB9 := hidI hB9
  replace hP := hidI hP
  replace hn := hidI hn
  replace hZ := hidI hZ
  replace hZn := hidI hZn
  replace hlp := hidI hlp
  replace hZs := hidI hZs
  replace hpl := hidI hpl
  replace hZk := hidI hZk
  replace hbad := hidI hbad
  replace hend := hidI hend
  replace hlen := hidI hlen
  replace hno := hidI hno
  replace hgr0 := hidI hgr0
  replace hw2 := hidI hw2
  replace hs2 := hidI hs2
  replace hh2 := hidI hh2
  replace hQ := hidI hQ
  replace hQP := hidI hQP
  replace hQl := hidI hQl
  replace hQN := hidI hQN
  replace hQat := hidI hQat
  replace hN := hidI hN
  replace hpart := hidI hpart
  replace hbp := hidI hbp
  replace hv0 := hidI hv0
  go_enter Tryd.func5, Tryd.ntmps5
  go_wp2_with fail
  refine hsp.mono ?_
  rintro e w2 ⟨rfl, rfl⟩
  clear hsp
  rw [← hbp.out]
  have hgr1 := hgr0
  clear hgr0
  have hb0 : Hid (Below w.heap.size w w2) := hidI hb2
  go_wp2
  go_loopg [6, 8, 9, 10, 16] n (fun gg v x0 x1 x2 i wr => ∃ k : Nat, k + gg = n ∧ i = .int .i64 k ∧ Hid (GrowSS wr w.heap.size v k Z) ∧ Hid (v.ownBlock ≠ some bp) ∧ Hid (∀ j, j < k → parOk r (P.getD j []) = true) ∧ Hid (Below w.heap.size w wr) ∧ Hid (wr.heap[bp]? = w2.heap[bp]?) ∧ w2.heap.size ≤ wr.heap.size)
  case atStart => exact ⟨0, by omega, rfl, hgr1, hv0, hidI (fun j h => by omega), hb0, hidI rfl, Nat.le_refl _⟩
  case round =>
    clear hgr1 hv0 hb0
    obtain ⟨k, hk, rfl, hgr, hvb, hall, hb, hbk, hsw⟩ := hrel
    obtain ⟨av, cv, rfl⟩ := hgr.out.form
    by_cases hlt : k < n
    · have hki : (k : Int) < (n : Int) := by omega
      have hc := hpart.out k hlt wr hbk.out
      have hcall := parse_any wr r (toB (P.getD k [])) (hpl.out k hlt)
      rw [toB_list] at hcall
      have hZk9 := hZk.out k hlt
      obtain ⟨T, hT⟩ : ∃ T, T = toB (P.getD k []) := ⟨_, rfl⟩
      rw [← hT] at hc hcall
      obtain ⟨X, hX⟩ : ∃ X, X = parL r (P.getD k []) := ⟨_, rfl⟩
      rw [← hX] at hcall hZk9
      by_cases hok : parOk r (P.getD k []) = true
      · rw [hok] at hcall
        have hnx : Hid (∀ j, j < k + 1 → parOk r (P.getD j []) = true) := hidI fun j hj => by
          by_cases e : j = k
          · subst e; exact hok
          · exact hall.out j (by omega)
        replace hok := hidI hok
        replace hT := hidI hT
        replace hX := hidI hX
        replace hZk9 := hidI hZk9
        replace hk := hidI hk
        go_wp2_with fail
        refine hcall.mono ?_
        rintro e w6 ⟨u6, rfl, hrow6, hb6⟩
        clear hcall
        obtain ⟨a6, m6, c6, rfl⟩ := rowI_form hrow6
        obtain ⟨us, hul, hown, hcl⟩ := hgr.out
        have hown6 : OwnsW w6 w.heap.size (.slice av k cv) us := hown.other (fun q hq => hb6.block q (World.ownsRow.lt hown q hq).2)
        have hbs : w.heap.size ≤ w6.heap.size := by have := hb.out.size; have := hb6.size; omega
        have hul' : us.length ≤ 1000000000 := by omega
        replace hown6 := hidI hown6
        replace hcl := hidI hcl
        replace hown := hidI hown
        replace hul := hidI hul
        go_wp2_with (at_builtin; go_must (refine wpList_pushW_at rfl _ _ rfl w.heap.size (.slice av k cv) us a6 m6 c6 rfl rfl hown6.out hul' hbs ?_))
        intro v9 w9 hown9 hg9 hat9
        have hgr9 := hidI (GrowSS.more hul.out hown.out hcl.out hb6 hb.out.size (by rw [hZk9.out]; exact hrow6) hown9 hg9 hat9)
        have hvb9 : Hid (v9.ownBlock ≠ some bp) := hidI (by
          rcases hat9 with e | e
          · rw [e]; exact hvb.out
          · rw [e]; have := hb6.size; simp; omega)
        have hbw6 := hb.out.trans (hb6.mono hb.out.size)
        have hb9 : Hid (Below w.heap.size w w9) := hidI ((hbw6.alloc hbw6.size _).grown hg9 (by simp; omega) (fun q hq => (World.ownsRow.lt hown.out q hq).1))
        have hbk9 : Hid (w9.heap[bp]? = w2.heap[bp]?) := hidI (by
          rw [hg9.block bp (by have := hb6.size; simp; omega) (fun e => hvb.out e.symm), heap_alloc_old _ _ (by have := hb6.size; omega), hb6.block bp (by omega)]
          exact hbk.out)
        have hs9 : w2.heap.size ≤ w9.heap.size := by have h7 := hb6.size; have h8 := hg9.size; simp at h8; omega
        clear hown9 hg9 hat9 hrow6 hb6 hbw6 hgr hvb hb hbk hall hc
        go_wp2
        go_roundg (n - (k + 1))
        case rel => exact ⟨k + 1, by have := hk.out; omega, by go_num, hgr9, hvb9, hnx, hb9, hbk9, hs9⟩
        case measure => have := hk.out; omega
      · have hok' : parOk r (P.getD k []) = false := by simpa using hok
        rw [hok'] at hcall
        obtain ⟨eB, eA⟩ := hbad.out k hlt hok'
        subst eB
        subst eA
        replace hok := hidI hok
        replace hok' := hidI hok'
        replace hT := hidI hT
        replace hX := hidI hX
        replace hZk9 := hidI hZk9
        replace hk := hidI hk
        go_wp2_with fail
        refine hcall.mono ?_
        rintro e w6 ⟨u6, rfl, hrow6, hb6⟩
        clear hcall hc
        obtain ⟨a6, m6, c6, rfl⟩ := rowI_form hrow6
        have hbw6 := hb.out.trans (hb6.mono hb.out.size)
        have hfin : Hid (LwWordsBool w [] false (.returned (.tuple #[.slice none 0 0, .bool false])) w6) := hidI ⟨_, [], rfl, rowSS_nil _ _ _, hbw6⟩
        replace hrow6 := hidI hrow6
        replace hb6 := hidI hb6
        go_wp2
        go_ret2
        exact hfin.out
    · obtain rfl : k = n := by omega
      have hki : ¬ (k : Int) < (k : Int) := by omega
      obtain ⟨eB, eA⟩ := hend.out (fun j hj => hall.out j hj)
      have hZn9 := hZn.out
      obtain ⟨us, hrows⟩ := (show GrowSS wr w.heap.size (.slice av k cv) Z.length Z by rw [hZn9]; exact hgr.out).rows (by omega)
      have hare := progAreW wr (.slice av k cv) Z r hrows.read hZs.out
      obtain ⟨b, hbv⟩ : ∃ b, b = arew r Z := ⟨_, rfl⟩
      rw [← hbv] at hare eB eA
      replace hbv := hidI hbv
      replace hrows := hidI hrows
      replace hk := hidI hk
      subst eB
      replace eA := hidI eA
      go_wp2_with fail
      refine hare.mono ?_
      rintro e w6 ⟨rfl, hb6⟩
      clear hare
      have hbw6 := hb.out.trans (hb6.mono hb.out.size)
      cases B with
      | true =>
        have eA' : A = Z := by have := eA.out; simpa using this
        subst eA'
        have hfin : LwWordsBool w A true (.returned (.tuple #[.slice av k cv, .bool true])) w6 := ⟨_, us, rfl, (RowSS.below hrows.out hb6 (Nat.le_refl _)).wide (Nat.le_refl _) hb6.size, hbw6⟩
        replace hfin := hidI hfin
        replace hb6 := hidI hb6
        go_wp2
        go_ret2
        exact hfin.out
      | false =>
        have eA' : A = [] := by have := eA.out; simpa using this
        subst eA'
        have hfin : Hid (LwWordsBool w [] false (.returned (.tuple #[.slice none 0 0, .bool false])) w6) := hidI ⟨_, [], rfl, rowSS_nil _ _ _, hbw6⟩
        replace hb6 := hidI hb6
        go_wp2
        go_ret2
        exact hfin.out
end Go.Proofs.YtmafaglgegimfaaDoor
