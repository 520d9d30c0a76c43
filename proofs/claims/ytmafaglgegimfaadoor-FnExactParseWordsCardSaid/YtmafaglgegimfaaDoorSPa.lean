/- Lists of words and their texts: what is cut at commas, mathematics, rows of words that grow (tools/sp.py). -/
import Derived.Test.YtmafaglgegimfaaDoorSC
import Derived.Test.YtmafaglgegimfaaDoorWO
import Derived.Test.YtmafaglgegimfaaDoorM
import Derived.Lib.Split
import Derived.Laws.OwnMore
import Derived.Deep.LoopGhost
namespace Go.Proofs.YtmafaglgegimfaaDoor
open Go.RowKit
set_option linter.unusedVariables false
set_option linter.unusedSimpArgs false
set_option maxRecDepth 100000

/-- v is a slice of strings of the call's own. -/
abbrev OwnsTx (w : World) (base : Nat) (v : Value) (xs : List ByteArray) : Prop := w.ownsRow base 9 1 v xs.length (xs.map Value.string)
theorem infoStr : (Tryd.prog.info? 9).map (fun i => (i.zero, i.size, i.bytes)) = some (some (.string ⟨#[]⟩), 1, 16) := by kernel_rfl
theorem OwnsTx.later {w w' : World} {base B : Nat} {v : Value} {xs : List ByteArray} (h : OwnsTx w base v xs) (hb : Below B w w') (hB : w.heap.size ≤ B) : OwnsTx w' base v xs := by
  have hlt := World.ownsRow.lt h
  obtain ⟨hlen, ⟨rfl, hn⟩ | ⟨g, cap, cur, rfl, hg, hh, hr⟩⟩ := h
  · exact ⟨hlen, .inl ⟨rfl, hn⟩⟩
  · refine ⟨hlen, .inr ⟨g, cap, cur, rfl, hg, ?_, hr⟩⟩
    rw [hb.block g (by have := (hlt g rfl).2; omega)]
    exact hh
theorem OwnsTx.some {w : World} {base : Nat} {v : Value} {xs : List ByteArray} (h : OwnsTx w base v xs) (h0 : xs ≠ []) : ∃ g cap, v = .slice (some ⟨g, 0, none⟩) xs.length cap ∧ xs.length ≤ cap ∧ base ≤ g ∧ g < w.heap.size ∧ ∀ (j : Nat) x, xs[j]? = some x → w.cell? ⟨g, 0 + j, none⟩ = some (.string x) := by
  have hlt := World.ownsRow.lt h
  have h2 := h
  obtain ⟨hlen, ⟨rfl, hn⟩ | ⟨g, cap, cur, rfl, hg, hh, hcap, hr⟩⟩ := h
  · exact absurd (List.length_eq_zero_iff.1 hn) h0
  · refine ⟨g, cap, rfl, hcap, hg, (hlt g rfl).2, fun j x hx => ?_⟩
    have hj := (List.getElem?_eq_some_iff.1 hx).1
    rw [Nat.zero_add, World.ownsRow.cellAt h2 j (by omega), List.getElem?_map, hx]
    rfl
theorem drop_byte {L : List UInt8} {k : Nat} (h : k < L.length) : L.drop k = L[k] :: L.drop (k + 1) := (List.getElem_cons_drop h).symm
/-- The parts of a text between its commas. -/
def cutG (pre : List UInt8) : List UInt8 → List (List UInt8)
  | [] => [pre]
  | c :: l => if c = 44 then pre :: cutG [] l else cutG (pre ++ [c]) l
def toB (l : List UInt8) : ByteArray := ⟨l.toArray⟩
theorem toB_list (l : List UInt8) : (toB l).data.toList = l := by simp [toB]
theorem toB_of (s : ByteArray) : toB s.data.toList = s := by unfold toB; simp
theorem cutG_length (l : List UInt8) : ∀ pre, (cutG pre l).length ≤ l.length + 1 := by
  induction l with
  | nil => intro pre; simp [cutG]
  | cons c l ih =>
    intro pre
    unfold cutG
    split
    · have := ih []; simp; omega
    · have := ih (pre ++ [c]); simp; omega
/-- out = append(out, y), y in a literal just built. -/
theorem wpList_pushTx {w0 : World} {ops : Array Oper} {rest : List Oper} {o : Oper} {a : Act} {Q : Exit → Act → World → Prop} (hgd : o.guard = none) (s x : Operand)
    (ho : o.op = .call { callee := .builtin .append, args := #[s, x], argTypes := #[29, 29] }) (base : Nat) (v : Value) (xs : List ByteArray) (y : ByteArray)
    (hs : a.eval s = v) (hx : a.eval x = .slice (some ⟨w0.heap.size, 0, none⟩) 1 1) (hown : OwnsTx w0 base v xs) (hl : xs.length ≤ 1000000000) (hbase : base ≤ w0.heap.size)
    (h : ∀ v' w', OwnsTx w' base v' (xs ++ [y]) → Below base w0 w' → wpList Tryd.prog ops Q rest (a.put o.dst v') w') :
    wpList Tryd.prog ops Q (o :: rest) a (w0.alloc (.cells #[.string y] 9)) := by
  obtain ⟨i0, hi, hz0, hz1, hz2⟩ := info_parts infoStr
  refine wpList_append_own _ hgd s x 29 ho base 9 i0 _ 1 16 Tryd.underlying29 hi hz0 hz1 hz2 rfl (by decide) v xs.length (xs.map Value.string) hs (World.ownsRow.alloc hown _) ⟨w0.heap.size, 0, none⟩ 1 1 [.string y] hx rfl ?_ ?_ ?_ ?_ ?_ ?_
  · intro j u hj
    match j, hj with
    | 0, hj => simp at hj; subst hj; simp [Addr.add]
  · intro u hu
    simp at hu
    subst hu
    rfl
  · unfold maxLen; omega
  · omega
  · simp; omega
  · intro v' w' ho' hg _
    refine h v' w' (by unfold OwnsTx; simpa using ho') ?_
    exact ((Below.refl base w0).alloc hbase _).grown hg (by simp; omega) (fun k hk => (World.ownsRow.lt hown k hk).1)
/-- What a function leaves that hands back strings in memory of its own. -/
def LwTx (w : World) (xs : List ByteArray) (e : Ending) (w' : World) : Prop := ∃ v, e = .returned v ∧ OwnsTx w' w.heap.size v xs ∧ Below w.heap.size w w'
set_option maxHeartbeats 4400000 in
theorem l4Cut_any (s : ByteArray) (w : World) (hs : s.size ≤ 1048576) : Calls Tryd.prog 10 #[.string s, .int .u8 44] w (LwTx w ((cutG [] s.data.toList).map toB)) := by
  obtain ⟨L, hL⟩ : ∃ L, L = s.data.toList := ⟨_, rfl⟩
  have hlen : L.length = s.size := by rw [hL]; rfl
  rw [← hL]
  obtain ⟨T, hT⟩ : ∃ T, T = cutG [] L := ⟨_, rfl⟩
  have hTl : T.length ≤ s.size + 1 := by rw [hT, ← hlen]; exact cutG_length L []
  rw [← hT]
  obtain ⟨w1, hw1⟩ : ∃ w1, w1 = w.alloc (.cells #[] 9) := ⟨_, rfl⟩
  have hb1 : Below w.heap.size w w1 := by rw [hw1]; exact (Below.refl _ _).alloc (Nat.le_refl _) _
  have hown1 : OwnsTx w1 w.heap.size (.slice (some ⟨w.heap.size, 0, none⟩) 0 0) [] := by rw [hw1]; exact World.ownsRow_lit w #[] 0 (Nat.le_refl _) (Nat.zero_le _) rfl
  replace hL := hidI hL
  replace hlen := hidI hlen
  replace hT := hidI hT
  replace hw1 := hidI hw1
  replace hown1 := hidI hown1
  go_enter Tryd.func10, Tryd.ntmps10
  go_wp2
  rw [← hw1.out]
  go_loopg [5, 6, 7] s.size (fun g v p i wr => ∃ (k : Nat) (P : List UInt8) (X : List (List UInt8)), k + g = s.size ∧ i = .int .i64 k ∧ p = .string (toB P) ∧ P.length ≤ k ∧ Hid (X ++ cutG P (L.drop k) = T) ∧ Hid (OwnsTx wr w.heap.size v (X.map toB)) ∧ Hid (Below w.heap.size w wr))
  case atStart => exact ⟨0, [], [], by omega, rfl, rfl, by simp, hidI (by rw [hT.out]; simp), hown1, hidI hb1⟩
  case round =>
    clear hown1
    obtain ⟨k, P, X, hk, rfl, rfl, hPl, hX, hown, hb⟩ := hrel
    have hXl : X.length ≤ T.length := by rw [← hX.out]; simp
    by_cases hlt : k < s.size
    · have hkL : k < L.length := by rw [hlen.out]; exact hlt
      have e1 : L[k] = s[k] := by have h := hL.out; subst h; rfl
      have hdrop : L.drop k = s[k] :: L.drop (k + 1) := by rw [drop_byte hkL, e1]
      rw [hdrop] at hX
      have hcb := toNat_lt s[k]
      have hki : (k : Int) < (s.size : Int) := by omega
      have hXm : (X.map toB).length ≤ 1000000000 := by rw [List.length_map]; omega
      replace hdrop := hidI hdrop
      clear e1 hkL
      by_cases hc : s[k] = 44
      · have hc2 : ((s[k].toNat : Int) == 44) = true := by rw [hc]; rfl
        have hX2 : Hid ((X ++ [P]) ++ cutG [] (L.drop (k + 1)) = T) := hidI (by rw [← hX.out, cutG, if_pos hc]; simp)
        have hwb : Hid (Below w.heap.size w wr) := hb
        replace hc := hidI hc
        replace hk := hidI hk
        clear hX
        go_wp2_with (at_builtin; go_must (refine wpList_pushTx rfl _ _ rfl w.heap.size _ (X.map toB) (toB P) rfl rfl (by exact hown.out) hXm hb.out.size ?_))
        intro v' w' hown' hb'
        have hown2 : Hid (OwnsTx w' w.heap.size v' ((X ++ [P]).map toB)) := hidI (by rw [List.map_append]; exact hown')
        have hb2 := hidI (hb.out.trans hb')
        clear hown' hb' hown hb hwb
        go_wp2
        go_roundg (s.size - (k + 1))
        case rel => exact ⟨k + 1, [], X ++ [P], by have := hk.out; omega, by go_num, rfl, by simp, hX2, hown2, hb2⟩
        case measure => have := hk.out; omega
      · have hc2 : ((s[k].toNat : Int) == 44) = false := by
          rw [beq_eq_false_iff_ne]
          intro h
          exact hc (by apply UInt8.toNat_inj.1; simpa using (by omega : s[k].toNat = 44))
        have hX2 : Hid (X ++ cutG (P ++ [s[k]]) (L.drop (k + 1)) = T) := hidI (by rw [← hX.out, cutG, if_neg hc])
        have hkz1 : (k : Int) + 1 ≤ (s.size : Int) := by omega
        have hwk : IntKind.i64.wrap ((k : Int) + 1) = (k : Int) + 1 := IntWalk.i64_in _ (by omega)
        have hk0 : (0 : Int) ≤ (k : Int) + 1 := by omega
        have htn : ((k : Int) + 1).toNat = k + 1 := by omega
        have hkk : (k : Int) ≤ (k : Int) + 1 := by omega
        have hkz : (k : Int) ≤ (s.size : Int) := by omega
        have hPz : (toB P).size = P.length := by simp [toB, ByteArray.size]
        have hez : (s.extract k (k + 1)).size = 1 := by simp [ByteArray.size_extract]; omega
        have hsum : ¬ 9223372036854775807 < (toB P).size + (s.extract k (k + 1)).size := by rw [hPz, hez]; omega
        have hcat : toB P ++ s.extract k (k + 1) = toB (P ++ [s[k]]) := by
          apply ByteArray.ext
          apply Array.toList_inj.1
          rw [toB_list]
          simp [toB_list, ByteArray.data_extract]
          have hkL : k < s.data.toList.length := by simpa using hlt
          rw [← List.getElem_cons_drop hkL]
          rfl
        replace hk := hidI hk
        replace hc := hidI hc
        clear hX
        go_wp2
        go_roundg (s.size - (k + 1))
        case rel => exact ⟨k + 1, P ++ [s[k]], X, by have := hk.out; omega, by go_num, rfl, by simp; omega, hX2, hown, hb⟩
        case measure => have := hk.out; omega
    · obtain rfl : k = s.size := by omega
      have hdrop : L.drop s.size = [] := List.drop_of_length_le (by rw [hlen.out]; omega)
      rw [hdrop] at hX
      have hTX : Hid (T = X ++ [P]) := hidI (by rw [← hX.out]; rfl)
      have hki : ¬ (s.size : Int) < (s.size : Int) := by omega
      have hXm : (X.map toB).length ≤ 1000000000 := by rw [List.length_map]; omega
      replace hk := hidI hk
      replace hdrop := hidI hdrop
      clear hX
      go_wp2_with (at_builtin; go_must (refine wpList_pushTx rfl _ _ rfl w.heap.size _ (X.map toB) (toB P) rfl rfl (by exact hown.out) hXm hb.out.size ?_))
      intro v' w' hown' hb'
      have hr : LwTx w (T.map toB) (.returned v') w' := ⟨_, rfl, by rw [hTX.out, List.map_append]; exact hown', hb.out.trans hb'⟩
      replace hr := hidI hr
      clear hown' hb' hown hb
      go_wp2
      go_ret
      exact hr.out
theorem cutG_ne (l : List UInt8) : ∀ pre, cutG pre l ≠ [] := by
  induction l with
  | nil => intro pre; simp [cutG]
  | cons c l ih =>
    intro pre
    unfold cutG
    split
    · simp
    · exact ih _
def noSp (a : List UInt8) : Prop := ∀ c ∈ a, c ≠ 44
theorem cutG_none (a : List UInt8) : ∀ pre, noSp a → cutG pre a = [pre ++ a] := by
  induction a with
  | nil => intro pre _; simp [cutG]
  | cons c a ih =>
    intro pre h
    rw [cutG, if_neg (h c (by simp)), ih _ (fun x hx => h x (by simp [hx]))]
    simp
theorem cutG_some (a rest : List UInt8) : ∀ pre, noSp a → cutG pre (a ++ 44 :: rest) = (pre ++ a) :: cutG [] rest := by
  induction a with
  | nil => intro pre _; simp [cutG]
  | cons c a ih =>
    intro pre h
    rw [List.cons_append, cutG, if_neg (h c (by simp)), ih _ (fun x hx => h x (by simp [hx]))]
    simp
theorem index_none44 (a : List UInt8) (h : noSp a) : Lib.index a [44] = -1 := by
  induction a with
  | nil => rfl
  | cons c a ih =>
    unfold Lib.index
    have hc : ([44] : List UInt8).isPrefixOf (c :: a) = false := by
      have := h c (by simp)
      simp [List.isPrefixOf]
      exact fun e => this e.symm
    rw [hc, ih (fun x hx => h x (by simp [hx]))]
    rfl
theorem index_some44 (a rest : List UInt8) (h : noSp a) : Lib.index (a ++ 44 :: rest) [44] = (a.length : Int) := by
  induction a with
  | nil => simp [Lib.index, List.isPrefixOf]
  | cons c a ih =>
    rw [List.cons_append]
    unfold Lib.index
    have hc : ([44] : List UInt8).isPrefixOf (c :: (a ++ 44 :: rest)) = false := by
      have := h c (by simp)
      simp [List.isPrefixOf]
      exact fun e => this e.symm
    rw [hc, ih (fun x hx => h x (by simp [hx]))]
    have : (((a.length : Int)) == -1) = false := by rw [beq_eq_false_iff_ne]; omega
    simp [this]
theorem sp_split (s : List UInt8) : noSp s ∨ ∃ a rest, s = a ++ 44 :: rest ∧ noSp a := by
  induction s with
  | nil => left; intro c h; cases h
  | cons c s ih =>
    by_cases hc : c = 44
    · right; exact ⟨[], s, by rw [hc]; rfl, fun x h => by cases h⟩
    · rcases ih with h | ⟨a, rest, rfl, h⟩
      · left
        intro x hx
        rcases List.mem_cons.1 hx with rfl | hx
        · exact hc
        · exact h x hx
      · right
        refine ⟨c :: a, rest, rfl, fun x hx => ?_⟩
        rcases List.mem_cons.1 hx with rfl | hx
        · exact hc
        · exact h x hx
theorem splitK_cut (k : Nat) : ∀ s : List UInt8, (cutG [] s).length ≤ k + 1 → Lib.splitK [44] 0 k s = cutG [] s := by
  induction k with
  | zero =>
    intro s h
    rcases sp_split s with hs | ⟨a, rest, rfl, ha⟩
    · rw [cutG_none s [] hs]; simp [Lib.splitK]
    · rw [cutG_some a rest [] ha] at h
      have := cutG_ne rest []
      simp at h
      exact absurd h this
  | succ k ih =>
    intro s h
    rcases sp_split s with hs | ⟨a, rest, rfl, ha⟩
    · rw [cutG_none s [] hs]
      unfold Lib.splitK
      rw [index_none44 s hs]
      simp
    · rw [cutG_some a rest [] ha] at h ⊢
      unfold Lib.splitK
      rw [index_some44 a rest ha]
      have h1 : (((a.length : Int)) == -1) = false := by rw [beq_eq_false_iff_ne]; omega
      rw [h1]
      have h2 : (((a.length : Int)).toNat + ([44] : List UInt8).length) = a.length + 1 := by simp
      have h3 : (a ++ 44 :: rest).drop (a.length + 1) = rest := by simp
      rw [h2, h3, ih rest (by simp at h; omega)]
      simp
theorem splitK_many (k : Nat) : ∀ s : List UInt8, k + 1 ≤ (cutG [] s).length → (Lib.splitK [44] 0 k s).length = k + 1 := by
  induction k with
  | zero => intro s h; simp [Lib.splitK]
  | succ k ih =>
    intro s h
    rcases sp_split s with hs | ⟨a, rest, rfl, ha⟩
    · rw [cutG_none s [] hs] at h; simp at h
    · rw [cutG_some a rest [] ha] at h
      unfold Lib.splitK
      rw [index_some44 a rest ha]
      have h1 : (((a.length : Int)) == -1) = false := by rw [beq_eq_false_iff_ne]; omega
      rw [h1]
      have h2 : (((a.length : Int)).toNat + ([44] : List UInt8).length) = a.length + 1 := by simp
      have h3 : (a ++ 44 :: rest).drop (a.length + 1) = rest := by simp
      rw [h2, h3]
      have := ih rest (by simp at h; omega)
      simp [this]
/-! ### ParseWords -/
abbrev noneT : List UInt8 := [110, 111, 110, 101]
/-- Are all of these parts words, and the words a flower's? -/
def partsOk (r : Int) (P : List (List UInt8)) : Bool := decide (∀ i, i < P.length → parOk r (P.getD i []) = true) && arew r (P.map (parL r))
/-- As the model reads. -/
def pwOk (r : Int) (s : List UInt8) : Bool := if s = noneT ∧ 1 ≤ r ∧ r ≤ 3 then true else partsOk r (cutG [] s)
def pwL (r : Int) (s : List UInt8) : List (List Int) := if s = noneT ∧ 1 ≤ r ∧ r ≤ 3 then [] else if partsOk r (cutG [] s) = true then (cutG [] s).map (parL r) else []
/-- The parts as the program splits them. -/
def split7 (s : List UInt8) : List (List UInt8) := Lib.splitK [44] 0 (min 7 (s.length + 1) - 1) s
def pwOkP (r : Int) (s : List UInt8) : Bool := if s = noneT then arew r [] else partsOk r (split7 s)
def pwLP (r : Int) (s : List UInt8) : List (List Int) := if s = noneT then [] else if partsOk r (split7 s) = true then (split7 s).map (parL r) else []
theorem arew_nil (r : Int) : arew r [] = decide (1 ≤ r ∧ r ≤ 3) := by
  rw [arew_end (fun i hi => by simp at hi)]
  congr 1
  rw [eq_iff_iff]
  constructor
  · rintro ⟨h1, h2, _⟩; exact ⟨h1, h2⟩
  · rintro ⟨h1, h2⟩; exact ⟨h1, h2, by simp, by simp [totL, sumN]⟩
theorem parts_six {r : Int} {P : List (List UInt8)} (h : 6 < P.length) : partsOk r P = false := by
  unfold partsOk
  have : arew r (P.map (parL r)) = false := by
    unfold arew
    rw [decide_eq_false_iff_not]
    intro hh
    have := hh.2.2.2.1
    rw [List.length_map] at this
    omega
  rw [this, Bool.and_false]
theorem none_parts (r : Int) : partsOk r (cutG [] noneT) = false := by
  unfold partsOk
  have hc : cutG [] noneT = [noneT] := by decide
  rw [hc]
  have hp : parOk r noneT = false := by
    unfold parOk
    rw [if_neg (by decide)]
    have : goodB noneT = false := by decide
    rw [this]
    rfl
  have : decide (∀ i, i < [noneT].length → parOk r ([noneT].getD i []) = true) = false := by
    rw [decide_eq_false_iff_not]
    intro h
    have := h 0 (by simp)
    simp only [List.getD_cons_zero] at this
    rw [hp] at this
    cases this
  rw [this]
  rfl
theorem split7_same (r : Int) (s : List UInt8) : partsOk r (split7 s) = partsOk r (cutG [] s) ∧ (partsOk r (cutG [] s) = true → split7 s = cutG [] s) := by
  have hlen := cutG_length s []
  by_cases h : (cutG [] s).length ≤ 6
  · have he : split7 s = cutG [] s := splitK_cut _ s (by omega)
    rw [he]; exact ⟨rfl, fun _ => rfl⟩
  · have h1 : partsOk r (cutG [] s) = false := parts_six (by omega)
    have h2 : (split7 s).length = min 7 (s.length + 1) - 1 + 1 := splitK_many _ s (by omega)
    have h3 : partsOk r (split7 s) = false := parts_six (by omega)
    rw [h1, h3]
    exact ⟨rfl, fun e => by cases e⟩
theorem pw_same (r : Int) (s : List UInt8) : pwOkP r s = pwOk r s ∧ pwLP r s = pwL r s := by
  unfold pwOkP pwOk pwLP pwL
  by_cases hs : s = noneT
  · subst hs
    by_cases hr : 1 ≤ r ∧ r ≤ 3
    · simp only [hr, and_self, if_true, true_and]
      exact ⟨by rw [arew_nil, decide_eq_true hr], trivial⟩
    · have hn : ¬ (noneT = noneT ∧ 1 ≤ r ∧ r ≤ 3) := fun h => hr h.2
      rw [if_neg hn, if_neg hn, none_parts]
      exact ⟨by rw [if_pos rfl, arew_nil, decide_eq_false hr], rfl⟩
  · have hn : ¬ (s = noneT ∧ 1 ≤ r ∧ r ≤ 3) := fun h => hs h.1
    obtain ⟨h1, h2⟩ := split7_same r s
    rw [if_neg hs, if_neg hs, if_neg hn, if_neg hn, h1]
    refine ⟨rfl, ?_⟩
    split
    · rename_i h; rw [h2 h]
    · rfl
theorem partsOk_bad {r : Int} {P : List (List UInt8)} {i : Nat} (hi : i < P.length) (h : parOk r (P.getD i []) = false) : partsOk r P = false := by
  unfold partsOk
  rw [decide_eq_false_iff_not.2 (fun hh => by rw [hh i hi] at h; cases h)]
  rfl
theorem partsOk_end {r : Int} {P : List (List UInt8)} (h : ∀ i, i < P.length → parOk r (P.getD i []) = true) : partsOk r P = arew r (P.map (parL r)) := by
  unfold partsOk
  rw [decide_eq_true h, Bool.true_and]
theorem parL_len (r : Int) (L : List UInt8) : (parL r L).length ≤ L.length := by
  unfold parL
  split
  · split
    · simp
    · rw [List.length_map]; exact Nat.le_refl _
  · simp
def lenP : List (List UInt8) → Nat
  | [] => 0
  | x :: xs => x.length + lenP xs
theorem totL_par (r : Int) : ∀ P : List (List UInt8), totL (P.map (parL r)) ≤ lenP P := by
  intro P
  induction P with
  | nil => simp [totL, sumN, lenP]
  | cons x P ih =>
    have := parL_len r x
    unfold totL at ih ⊢
    simp only [List.map_cons, sumN, lenP] at ih ⊢
    omega
theorem lenP_cut : ∀ (s pre : List UInt8), lenP (cutG pre s) ≤ pre.length + s.length := by
  intro s
  induction s with
  | nil => intro pre; simp [cutG, lenP]
  | cons c s ih =>
    intro pre
    rw [cutG]
    split
    · have := ih []
      simp only [lenP, List.length_nil, List.length_cons] at this ⊢
      omega
    · have := ih (pre ++ [c])
      simp only [List.length_append, List.length_cons, List.length_nil] at this ⊢
      omega
theorem lenP_get : ∀ (P : List (List UInt8)) (i : Nat), i < P.length → (P.getD i []).length ≤ lenP P := by
  intro P
  induction P with
  | nil => intro i hi; simp at hi
  | cons x P ih =>
    intro i hi
    cases i with
    | zero => simp [lenP]
    | succ i => have := ih i (by simpa using hi); simp only [List.getD_cons_succ, lenP]; omega
theorem lenP_split (k : Nat) : ∀ s : List UInt8, lenP (Lib.splitK [44] 0 k s) ≤ s.length := by
  induction k with
  | zero => intro s; simp [Lib.splitK, lenP]
  | succ k ih =>
    intro s
    rcases sp_split s with hs | ⟨a, rest, rfl, ha⟩
    · unfold Lib.splitK
      rw [index_none44 s hs]
      simp [lenP]
    · unfold Lib.splitK
      rw [index_some44 a rest ha]
      have h1 : (((a.length : Int)) == -1) = false := by rw [beq_eq_false_iff_ne]; omega
      rw [h1]
      have h2 : (((a.length : Int)).toNat + ([44] : List UInt8).length) = a.length + 1 := by simp
      have h3 : (a ++ 44 :: rest).drop (a.length + 1) = rest := by simp
      rw [h2, h3]
      have := ih rest
      simp [lenP]
      omega
theorem pwL_length (r : Int) (s : List UInt8) : (pwL r s).length ≤ s.length + 1 ∧ sumN ((pwL r s).map List.length) ≤ s.length := by
  unfold pwL
  split
  · simp [sumN]
  · split
    · have h1 := cutG_length s []
      have h2 := totL_par r (cutG [] s)
      have h3 := lenP_cut s []
      unfold totL at h2
      rw [List.length_map]
      simp only [List.length_nil] at h3
      omega
    · simp [sumN]
/-! ### Rows of words that grow -/
/-- The slices us of a call's own, each in a block of its own and none in the row's own block vb. -/
def ClimbV (w : World) (lo : Nat) (vb : Option Nat) (us : List Value) (Z : List (List Int)) : Prop :=
  (∀ i, i < us.length → RowI w lo w.heap.size (us.getD i undef) (Z.getD i []) ∧ ∀ b, (us.getD i undef).ownBlock = some b → vb ≠ some b) ∧ us.Pairwise (fun p q => ∀ b c, p.ownBlock = some b → q.ownBlock = some c → b < c)
theorem ClimbV.keep {w w' : World} {lo : Nat} {vb vb' : Option Nat} {us : List Value} {Z : List (List Int)} (h : ClimbV w lo vb us Z) (hs : w.heap.size ≤ w'.heap.size) (hb : ∀ b, b < w.heap.size → vb ≠ some b → w'.heap[b]? = w.heap[b]?) (hv : vb' = vb ∨ ∃ n, vb' = some n ∧ w.heap.size ≤ n) : ClimbV w' lo vb' us Z := by
  refine ⟨fun i hi => ?_, h.2⟩
  obtain ⟨h1, h2⟩ := h.1 i hi
  rcases h1.block with ⟨e1, e2⟩ | ⟨c, e1, e2, e3, e4⟩
  · rw [e1, e2]; exact ⟨⟨by simp, .inl ⟨rfl, rfl⟩⟩, fun b hb => by cases hb⟩
  · refine ⟨(e4.keep fun k q1 q2 => by
      obtain rfl : k = c := by omega
      exact hb k e3 (h2 k e1)).wide e2 (by omega), fun b hb' => ?_⟩
    rw [e1] at hb'
    cases hb'
    rcases hv with hv | ⟨n, hv, hn⟩
    · rw [hv]; exact h2 _ e1
    · rw [hv]; simp; omega
theorem ClimbV.snoc {w : World} {lo s : Nat} {vb : Option Nat} {us : List Value} {Z : List (List Int)} {u : Value} (h : ClimbV w lo vb us Z) (hus : ∀ x ∈ us, ∀ b, x.ownBlock = some b → b < s) (hlo : lo ≤ s) (hu : RowI w s w.heap.size u (Z.getD us.length [])) (hne : ∀ b, u.ownBlock = some b → vb ≠ some b) : ClimbV w lo vb (us ++ [u]) Z := by
  refine ⟨fun i hi => ?_, ?_⟩
  · rw [List.length_append, List.length_singleton] at hi
    rcases Nat.lt_or_ge i us.length with h1 | h1
    · rw [List.getD_eq_getElem?_getD, List.getElem?_append_left h1, ← List.getD_eq_getElem?_getD]; exact h.1 i h1
    · obtain rfl : i = us.length := by omega
      rw [List.getD_eq_getElem?_getD, List.getElem?_append_right (Nat.le_refl _), Nat.sub_self]
      exact ⟨hu.wide hlo (Nat.le_refl _), hne⟩
  · rw [List.pairwise_append]
    refine ⟨h.2, List.pairwise_singleton _ _, fun p hp q hq b c hb hc => ?_⟩
    rw [List.mem_singleton] at hq
    subst hq
    have := hus p hp b hb
    rcases hu.block with ⟨e1, _⟩ | ⟨d, e1, e2, e3, _⟩
    · rw [e1] at hc; cases hc
    · rw [e1] at hc; cases hc; omega
theorem ClimbV.lt {w : World} {lo : Nat} {vb : Option Nat} {us : List Value} {Z : List (List Int)} (h : ClimbV w lo vb us Z) : ∀ x ∈ us, ∀ b, x.ownBlock = some b → b < w.heap.size := by
  intro x hx b hb
  obtain ⟨i, hi, rfl⟩ := List.getElem_of_mem hx
  have := (h.1 i hi).1
  rw [List.getD_eq_getElem?_getD, List.getElem?_eq_getElem hi] at this
  rcases this.block with ⟨e1, _⟩ | ⟨d, e1, e2, e3, _⟩
  · simp only [Option.getD_some] at e1; rw [e1] at hb; cases hb
  · simp only [Option.getD_some] at e1; rw [e1] at hb; cases hb; exact e3
/-- A row of words of the call's own, after k of the words Z. -/
def GrowSS (w : World) (base : Nat) (v : Value) (k : Nat) (Z : List (List Int)) : Prop := ∃ us : List Value, us.length = k ∧ OwnsW w base v us ∧ ClimbV w base v.ownBlock us Z
theorem GrowSS.below {w w' : World} {base : Nat} {v : Value} {k : Nat} {Z : List (List Int)} (h : GrowSS w base v k Z) (hb : Below w.heap.size w w') : GrowSS w' base v k Z := by
  obtain ⟨us, h1, h2, h3⟩ := h
  exact ⟨us, h1, h2.other (fun k hk => hb.block k (World.ownsRow.lt h2 k hk).2), h3.keep hb.size (fun b q _ => hb.block b q) (.inl rfl)⟩
theorem GrowSS.form {w : World} {base : Nat} {v : Value} {k : Nat} {Z : List (List Int)} (h : GrowSS w base v k Z) : ∃ a c, v = .slice a k c := by
  obtain ⟨us, h1, h2, _⟩ := h
  obtain ⟨a, c, e⟩ := h2.form
  exact ⟨a, c, by rw [e, h1]⟩
theorem GrowSS.rows {w : World} {base : Nat} {v : Value} {Z : List (List Int)} (h : GrowSS w base v Z.length Z) (hl : Z.length ≤ 1000000000) : ∃ us, RowSS w base w.heap.size v us Z := by
  obtain ⟨us, h1, h2, h3⟩ := h
  refine ⟨us, OwnsW.rowSS h2 (Nat.le_refl _) (Nat.le_refl _) h1 hl (fun i b hi hb => (h3.1 i hi).2 b hb) (fun i hi => (h3.1 i hi).1) (climb_apart h3.2)⟩
/-- One word more: v' is what append leaves. -/
theorem GrowSS.more {w w1 w2 : World} {X : Obj} {base k : Nat} {v v' u : Value} {Z : List (List Int)} {us : List Value} (hl : us.length = k) (h2 : OwnsW w base v us) (h3 : ClimbV w base v.ownBlock us Z) (hb : Below w.heap.size w w1) (hbase : base ≤ w.heap.size) (hu : RowI w1 w.heap.size w1.heap.size u (Z.getD k []))
    (hown : OwnsW w2 base v' (us ++ [u])) (hg : (w1.alloc X).grownBy w2 v.ownBlock) (hat : v'.ownBlock = v.ownBlock ∨ v'.ownBlock = some (w1.heap.size + 1)) : GrowSS w2 base v' (k + 1) Z := by
  refine ⟨us ++ [u], by rw [List.length_append, hl]; rfl, hown, ?_⟩
  have h3' : ClimbV w1 base v.ownBlock us Z := h3.keep hb.size (fun b q _ => hb.block b q) (.inl rfl)
  have hvl := World.ownsRow.lt h2
  have h4 : ClimbV w1 base v.ownBlock (us ++ [u]) Z := h3'.snoc (s := w.heap.size) (h3.lt) hbase (by rw [hl]; exact hu) (fun b hbb he => by
    have := (hvl b he).2
    rcases hu.block with ⟨e1, _⟩ | ⟨d, e1, e2, e3, _⟩
    · rw [e1] at hbb; cases hbb
    · rw [e1] at hbb; cases hbb; omega)
  have hsz : w1.heap.size + 1 ≤ w2.heap.size := by have := hg.size; simpa using this
  refine h4.keep (by omega) (fun b q hne => ?_) ?_
  · rw [hg.block b (by simp; omega) (fun e => hne e.symm), heap_alloc_old _ _ q]
  · rcases hat with e | e
    · exact .inl e
    · exact .inr ⟨_, e, by omega⟩
def LwWordsBool (w : World) (zss : List (List Int)) (b : Bool) (e : Ending) (w' : World) : Prop :=
  ∃ v us, e = .returned (.tuple #[v, .bool b]) ∧ RowSS w' w.heap.size w'.heap.size v us zss ∧ Below w.heap.size w w'
theorem rowSS_nil (w : World) (lo hi : Nat) : RowSS w lo hi (.slice none 0 0) [] [] := ⟨rfl, by simp, .inl ⟨rfl, rfl⟩, fun i hi => by simp at hi, fun i j b hi => by simp at hi⟩
theorem rowSS_lit (w w1 : World) (g : Nat) (hg : g = w1.heap.size) (hb : w.heap.size ≤ w1.heap.size) (b : Bool) (hw : Below w.heap.size w w1) : LwWordsBool w [] b (.returned (.tuple #[.slice (some ⟨g, 0, none⟩) 0 0, .bool b])) (w1.alloc (.cells #[] 31)) := by
  subst hg
  refine ⟨_, [], rfl, ⟨rfl, by simp, .inr ⟨w1.heap.size, 0, 0, #[], rfl, hb, by simp, Nat.le_refl _, heap_alloc_new _ _, fun i hi => by simp at hi, fun i b hi => by simp at hi⟩, fun i hi => by simp at hi, fun i j b hi => by simp at hi⟩, hw.alloc hb _⟩
end Go.Proofs.YtmafaglgegimfaaDoor
