/- Graphs, the model: l4Cut. -/
import Derived.Test.YtkmhncbakfnfeaaDoorGQ1
import Derived.Test.YtkmhncbakfnfeaaDoorGPF
namespace Go.Proofs.YtkmhncbakfnfeaaDoor
open Go.RowKit
set_option linter.unusedVariables false
set_option linter.unusedSimpArgs false
set_option maxRecDepth 100000

/-- The parts of a text between its spaces. -/
def cutG (pre : List UInt8) : List UInt8 → List (List UInt8)
  | [] => [pre]
  | c :: l => if c = 32 then pre :: cutG [] l else cutG (pre ++ [c]) l
def toB (l : List UInt8) : ByteArray := ⟨l.toArray⟩
theorem toB_list (l : List UInt8) : (toB l).data.toList = l := by simp [toB]
theorem toB_of (s : ByteArray) : toB s.data.toList = s := by unfold toB; simp
theorem cutG_length (l : List UInt8) : ∀ pre, (cutG pre l).length ≤ l.length + 1 := by
  induction l with
  | nil => intro pre; simp [cutG]
  | cons c l ih =>
    intro pre
    unfold cutG
    split
    · have := ih []; simp; omega
    · have := ih (pre ++ [c]); simp; omega
/-- out = append(out, y), y in a literal just built. -/
theorem wpList_pushTx {w0 : World} {ops : Array Oper} {rest : List Oper} {o : Oper} {a : Act} {Q : Exit → Act → World → Prop} (hgd : o.guard = none) (s x : Operand)
    (ho : o.op = .call { callee := .builtin .append, args := #[s, x], argTypes := #[43, 43] }) (base : Nat) (v : Value) (xs : List ByteArray) (y : ByteArray)
    (hs : a.eval s = v) (hx : a.eval x = .slice (some ⟨w0.heap.size, 0, none⟩) 1 1) (hown : OwnsTx w0 base v xs) (hl : xs.length ≤ 1000000000) (hbase : base ≤ w0.heap.size)
    (h : ∀ v' w', OwnsTx w' base v' (xs ++ [y]) → Below base w0 w' → wpList Tryd.prog ops Q rest (a.put o.dst v') w') :
    wpList Tryd.prog ops Q (o :: rest) a (w0.alloc (.cells #[.string y] 9)) := by
  obtain ⟨i0, hi, hz0, hz1, hz2⟩ := info_parts infoStr
  refine wpList_append_own _ hgd s x 43 ho base 9 i0 _ 1 16 Tryd.underlying43 hi hz0 hz1 hz2 rfl (by decide) v xs.length (xs.map Value.string) hs (World.ownsRow.alloc hown _) ⟨w0.heap.size, 0, none⟩ 1 1 [.string y] hx rfl ?_ ?_ ?_ ?_ ?_ ?_
  · intro j u hj
    match j, hj with
    | 0, hj => simp at hj; subst hj; simp [Addr.add]
  · intro u hu
    simp at hu
    subst hu
    rfl
  · unfold maxLen; omega
  · omega
  · simp; omega
  · intro v' w' ho' hg _
    refine h v' w' (by unfold OwnsTx; simpa using ho') ?_
    exact ((Below.refl base w0).alloc hbase _).grown hg (by simp; omega) (fun k hk => (World.ownsRow.lt hown k hk).1)
/-- What a function leaves that hands back strings in memory of its own. -/
def LwTx (w : World) (xs : List ByteArray) (e : Ending) (w' : World) : Prop := ∃ v, e = .returned v ∧ OwnsTx w' w.heap.size v xs ∧ Below w.heap.size w w'
set_option maxHeartbeats 3200000 in
theorem l4Cut_any (s : ByteArray) (w : World) (hs : s.size ≤ 1048576) : Calls Tryd.prog 24 #[.string s, .int .u8 32] w (LwTx w ((cutG [] s.data.toList).map toB)) := by
  obtain ⟨L, hL⟩ : ∃ L, L = s.data.toList := ⟨_, rfl⟩
  have hlen : L.length = s.size := by rw [hL]; rfl
  rw [← hL]
  obtain ⟨T, hT⟩ : ∃ T, T = cutG [] L := ⟨_, rfl⟩
  have hTl : T.length ≤ s.size + 1 := by rw [hT, ← hlen]; exact cutG_length L []
  rw [← hT]
  obtain ⟨w1, hw1⟩ : ∃ w1, w1 = w.alloc (.cells #[] 9) := ⟨_, rfl⟩
  have hb1 : Below w.heap.size w w1 := by rw [hw1]; exact (Below.refl _ _).alloc (Nat.le_refl _) _
  have hown1 : OwnsTx w1 w.heap.size (.slice (some ⟨w.heap.size, 0, none⟩) 0 0) [] := by rw [hw1]; exact World.ownsRow_lit w #[] 0 (Nat.le_refl _) (Nat.zero_le _) rfl
  replace hL := hidI hL
  replace hlen := hidI hlen
  replace hT := hidI hT
  replace hw1 := hidI hw1
  replace hown1 := hidI hown1
  go_enter Tryd.func24, Tryd.ntmps24
  go_wp2
  rw [← hw1.out]
  go_loopg [5, 6, 7] s.size (fun g v p i wr => ∃ (k : Nat) (P : List UInt8) (X : List (List UInt8)), k + g = s.size ∧ i = .int .i64 k ∧ p = .string (toB P) ∧ P.length ≤ k ∧ Hid (X ++ cutG P (L.drop k) = T) ∧ Hid (OwnsTx wr w.heap.size v (X.map toB)) ∧ Hid (Below w.heap.size w wr))
  case atStart => exact ⟨0, [], [], by omega, rfl, rfl, by simp, hidI (by rw [hT.out]; simp), hown1, hidI hb1⟩
  case round =>
    clear hown1
    obtain ⟨k, P, X, hk, rfl, rfl, hPl, hX, hown, hb⟩ := hrel
    have hXl : X.length ≤ T.length := by rw [← hX.out]; simp
    by_cases hlt : k < s.size
    · have hkL : k < L.length := by rw [hlen.out]; exact hlt
      have e1 : L[k] = s[k] := by have h := hL.out; subst h; rfl
      have hdrop : L.drop k = s[k] :: L.drop (k + 1) := by rw [drop_byte hkL, e1]
      rw [hdrop] at hX
      have hcb := toNat_lt s[k]
      have hki : (k : Int) < (s.size : Int) := by omega
      have hXm : (X.map toB).length ≤ 1000000000 := by rw [List.length_map]; omega
      replace hdrop := hidI hdrop
      clear e1 hkL
      by_cases hc : s[k] = 32
      · have hc2 : ((s[k].toNat : Int) == 32) = true := by rw [hc]; rfl
        have hX2 : Hid ((X ++ [P]) ++ cutG [] (L.drop (k + 1)) = T) := hidI (by rw [← hX.out, cutG, if_pos hc]; simp)
        have hwb : Hid (Below w.heap.size w wr) := hb
        replace hc := hidI hc
        replace hk := hidI hk
        clear hX
        go_wp2_with (at_builtin; go_must (refine wpList_pushTx rfl _ _ rfl w.heap.size _ (X.map toB) (toB P) rfl rfl (by exact hown.out) hXm hb.out.size ?_))
        intro v' w' hown' hb'
        have hown2 : Hid (OwnsTx w' w.heap.size v' ((X ++ [P]).map toB)) := hidI (by rw [List.map_append]; exact hown')
        have hb2 := hidI (hb.out.trans hb')
        clear hown' hb' hown hb hwb
        go_wp2
        go_roundg (s.size - (k + 1))
        case rel => exact ⟨k + 1, [], X ++ [P], by have := hk.out; omega, by go_num, rfl, by simp, hX2, hown2, hb2⟩
        case measure => have := hk.out; omega
      · have hc2 : ((s[k].toNat : Int) == 32) = false := by
          rw [beq_eq_false_iff_ne]
          intro h
          exact hc (by apply UInt8.toNat_inj.1; simpa using (by omega : s[k].toNat = 32))
        have hX2 : Hid (X ++ cutG (P ++ [s[k]]) (L.drop (k + 1)) = T) := hidI (by rw [← hX.out, cutG, if_neg hc])
        have hkz1 : (k : Int) + 1 ≤ (s.size : Int) := by omega
        have hwk : IntKind.i64.wrap ((k : Int) + 1) = (k : Int) + 1 := IntWalk.i64_in _ (by omega)
        have hk0 : (0 : Int) ≤ (k : Int) + 1 := by omega
        have htn : ((k : Int) + 1).toNat = k + 1 := by omega
        have hkk : (k : Int) ≤ (k : Int) + 1 := by omega
        have hkz : (k : Int) ≤ (s.size : Int) := by omega
        have hPz : (toB P).size = P.length := by simp [toB, ByteArray.size]
        have hez : (s.extract k (k + 1)).size = 1 := by simp [ByteArray.size_extract]; omega
        have hsum : ¬ 9223372036854775807 < (toB P).size + (s.extract k (k + 1)).size := by rw [hPz, hez]; omega
        have hcat : toB P ++ s.extract k (k + 1) = toB (P ++ [s[k]]) := by
          apply ByteArray.ext
          apply Array.toList_inj.1
          rw [toB_list]
          simp [toB_list, ByteArray.data_extract]
          have hkL : k < s.data.toList.length := by simpa using hlt
          rw [← List.getElem_cons_drop hkL]
          rfl
        replace hk := hidI hk
        replace hc := hidI hc
        clear hX
        go_wp2
        go_roundg (s.size - (k + 1))
        case rel => exact ⟨k + 1, P ++ [s[k]], X, by have := hk.out; omega, by go_num, rfl, by simp; omega, hX2, hown, hb⟩
        case measure => have := hk.out; omega
    · obtain rfl : k = s.size := by omega
      have hdrop : L.drop s.size = [] := List.drop_of_length_le (by rw [hlen.out]; omega)
      rw [hdrop] at hX
      have hTX : Hid (T = X ++ [P]) := hidI (by rw [← hX.out]; rfl)
      have hki : ¬ (s.size : Int) < (s.size : Int) := by omega
      have hXm : (X.map toB).length ≤ 1000000000 := by rw [List.length_map]; omega
      replace hk := hidI hk
      replace hdrop := hidI hdrop
      clear hX
      go_wp2_with (at_builtin; go_must (refine wpList_pushTx rfl _ _ rfl w.heap.size _ (X.map toB) (toB P) rfl rfl (by exact hown.out) hXm hb.out.size ?_))
      intro v' w' hown' hb'
      have hr : LwTx w (T.map toB) (.returned v') w' := ⟨_, rfl, by rw [hTX.out, List.map_append]; exact hown', hb.out.trans hb'⟩
      replace hr := hidI hr
      clear hown' hb' hown hb
      go_wp2
      go_ret
      exact hr.out
end Go.Proofs.YtkmhncbakfnfeaaDoor
