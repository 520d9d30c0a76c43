import Derived.Laws.MakeOwn
import Derived.Maps.AppendAt
import Derived.Test.YtpjlamnjiilgbaaGreatJ3Is
import Derived.Test.YtpjlamnjiilgbaaGreatJ13Is
import Derived.Test.YtpjlamnjiilgbaaGreatJ26Is
import Derived.Test.YtpjlamnjiilgbaaGreatJ14Is
namespace Go.Proofs.YtpjlamnjiilgbaaGreat
open Go.RowKit
set_option linter.unusedVariables false
set_option linter.unusedSimpArgs false
abbrev Ar := Ed × List Int
def d0 : Ar := (e0, [])
def vts (S : List Ar) : List Int := S.map (·.1.1)
def arr1 (es : List Ed) (i : Nat) (S : List Ar) (l : Int) : List Ar :=
 if 0 ≤ nxV es (S.getD i d0).1.1 l ∧ nxV es (S.getD i d0).1.1 l ∉ vts S then S ++ [((nxV es (S.getD i d0).1.1 l, l, (i : Int)), (S.getD i d0).2 ++ [l])] else S
def arrN (es : List Ed) (ls : List Int) (u : Int) : Nat → List Ar
 | 0 => [((u, 0, 0), [])]
 | k + 1 => if k < (arrN es ls u k).length then ls.foldl (arr1 es k) (arrN es ls u k) else arrN es ls u k
theorem getD_left {S T : List Ar} {j : Nat} (h : j < S.length) : (S ++ T).getD j d0 = S.getD j d0 := by
 rw [List.getD_eq_getElem?_getD, List.getElem?_append_left h, ← List.getD_eq_getElem?_getD]
theorem getD_last (S : List Ar) (x : Ar) : (S ++ [x]).getD S.length d0 = x := by
 rw [List.getD_eq_getElem?_getD, List.getElem?_append_right (Nat.le_refl _)]
 simp
structure GoodA (s : Nat) (u : Int) (S : List Ar) : Prop where
 pos : 0 < S.length
 zero : S.getD 0 d0 = ((u, 0, 0), [])
 back : ∀ j, 0 < j → j < S.length → ∃ b : Nat, b < j ∧ (S.getD j d0).1.2.2 = (b : Int) ∧ (S.getD j d0).2 = (S.getD b d0).2 ++ [(S.getD j d0).1.2.1]
 vert : ∀ j, j < S.length → 0 ≤ (S.getD j d0).1.1 ∧ (S.getD j d0).1.1 < (s : Int)
 cnt : S.length ≤ vxC s (vts S)
 wlen : ∀ j, j < S.length → (S.getD j d0).2.length ≤ j
 lets : ∀ j, j < S.length → -3 ≤ (S.getD j d0).1.2.1 ∧ (S.getD j d0).1.2.1 ≤ 3
theorem GoodA.length {s : Nat} {u : Int} {S : List Ar} (h : GoodA s u S) : S.length ≤ s := Nat.le_trans h.cnt (vxC_le s _)
theorem good_start {s : Nat} {u : Int} (hu : 0 ≤ u ∧ u < (s : Int)) : GoodA s u [((u, 0, 0), [])] where
 pos := by simp
 zero := rfl
 back := fun j h0 h1 => by simp at h1; omega
 vert := fun j h => by
  have : j = 0 := by simpa using h
  subst this; exact hu
 cnt := by
  refine List.one_le_countP_iff.2 ⟨u.toNat, List.mem_range.2 (by omega), ?_⟩
  exact decide_eq_true (by rw [show ((u.toNat : Nat) : Int) = u by omega]; simp [vts])
 wlen := fun j h => by
  have : j = 0 := by simpa using h
  subst this; simp
 lets := fun j h => by
  have : j = 0 := by simpa using h
  subst this; simp
theorem good_arr1 {s : Nat} {u : Int} {es : List Ed} {S : List Ar} {i : Nat} {l : Int} (h : GoodA s u S) (hi : i < S.length) (hl : -3 ≤ l ∧ l ≤ 3) (hN : ∀ v, 0 ≤ nxV es v l → nxV es v l < (s : Int)) : GoodA s u (arr1 es i S l) := by
 unfold arr1
 split
 case isFalse => exact h
 case isTrue hc =>
  obtain ⟨y, hy⟩ := exq (nxV es (S.getD i d0).1.1 l)
  have hyN := hN (S.getD i d0).1.1 hc.1
  rw [← hy] at hc hyN ⊢
  obtain ⟨X, hX⟩ : ∃ X : Ar, X = ((y, l, (i : Int)), (S.getD i d0).2 ++ [l]) := ⟨_, rfl⟩
  rw [← hX]
  have hcase : ∀ j, j < (S ++ [X]).length → j < S.length ∨ j = S.length := fun j hj => by simp at hj; omega
  constructor
  · simp
  · rw [getD_left h.pos]; exact h.zero
  · intro j h0 hj
    rcases hcase j hj with hj | rfl
    · obtain ⟨b, hb, h1, h2⟩ := h.back j h0 hj
      refine ⟨b, hb, ?_, ?_⟩
      · rw [getD_left hj]; exact h1
      · rw [getD_left hj, getD_left (by omega)]; exact h2
    · refine ⟨i, hi, ?_, ?_⟩
      · rw [getD_last, hX]
      · rw [getD_last, getD_left hi, hX]
  · intro j hj
    rcases hcase j hj with hj | rfl
    · rw [getD_left hj]; exact h.vert j hj
    · rw [getD_last, hX]; exact ⟨hc.1, hyN⟩
  · have hm : vxC s (vts S) + 1 ≤ vxC s (vts (S ++ [X])) := by
     refine cnt_lt (fun x hx hp => decide_eq_true ?_) ⟨y.toNat, List.mem_range.2 (by omega), ?_, ?_⟩
     · have := of_decide_eq_true hp
       unfold vts at this ⊢
       rw [List.map_append, List.mem_append]; exact .inl this
     · refine decide_eq_true ?_
       rw [show ((y.toNat : Nat) : Int) = y by omega]
       unfold vts
       rw [List.map_append, List.mem_append, hX]; exact .inr (by simp)
     · rw [show ((y.toNat : Nat) : Int) = y by omega]; exact decide_eq_false hc.2
    have := h.cnt
    simp only [List.length_append, List.length_cons, List.length_nil]
    omega
  · intro j hj
    rcases hcase j hj with hj | rfl
    · rw [getD_left hj]; exact h.wlen j hj
    · rw [getD_last, hX]
      have := h.wlen i hi
      show ((S.getD i d0).2 ++ [l]).length ≤ S.length
      rw [List.length_append, List.length_singleton]
      omega
  · intro j hj
    rcases hcase j hj with hj | rfl
    · rw [getD_left hj]; exact h.lets j hj
    · rw [getD_last, hX]; exact hl
theorem arr1_le (es : List Ed) (i : Nat) (S : List Ar) (l : Int) : S.length ≤ (arr1 es i S l).length := by
 unfold arr1; split
 · simp
 · exact Nat.le_refl _
theorem good_foldl {s : Nat} {u : Int} {es : List Ed} {i : Nat} : ∀ (ls : List Int) {S : List Ar}, GoodA s u S → i < S.length → (∀ l ∈ ls, -3 ≤ l ∧ l ≤ 3) → (∀ v l, -3 ≤ l ∧ l ≤ 3 → 0 ≤ nxV es v l → nxV es v l < (s : Int)) → GoodA s u (ls.foldl (arr1 es i) S) := by
 intro ls
 induction ls with
 | nil => intro S h _ _ _; exact h
 | cons l ls ih =>
  intro S h hi hl hN
  exact ih (good_arr1 h hi (hl l List.mem_cons_self) (fun v => hN v l (hl l List.mem_cons_self))) (Nat.lt_of_lt_of_le hi (arr1_le es i S l)) (fun l' h' => hl l' (List.mem_cons_of_mem _ h')) hN
theorem good_arrN {s : Nat} {u : Int} {es : List Ed} {ls : List Int} (hu : 0 ≤ u ∧ u < (s : Int)) (hl : ∀ l ∈ ls, -3 ≤ l ∧ l ≤ 3) (hN : ∀ v l, -3 ≤ l ∧ l ≤ 3 → 0 ≤ nxV es v l → nxV es v l < (s : Int)) : ∀ k, GoodA s u (arrN es ls u k) := by
 intro k
 induction k with
 | zero => exact good_start hu
 | succ k ih =>
  rw [arrN]
  split
  · rename_i h; exact good_foldl ls ih h hl hN
  · exact ih
theorem arrN_stay {es : List Ed} {ls : List Int} {u : Int} {k : Nat} (h : ¬ k < (arrN es ls u k).length) : ∀ m, arrN es ls u (k + m) = arrN es ls u k := by
 intro m
 induction m with
 | zero => rfl
 | succ m ih =>
  show arrN es ls u (k + m + 1) = _
  rw [arrN, ih, if_neg (by omega)]
theorem arrN_end {es : List Ed} {ls : List Int} {u : Int} {k : Nat} (h : ¬ k < (arrN es ls u k).length) (hk : k ≤ 41) : arrN es ls u 41 = arrN es ls u k := by
 have := arrN_stay h (41 - k)
 rwa [show k + (41 - k) = 41 by omega] at this
theorem nx_lt {r s : Int} {es : List Ed} (h : isFo r s es = true) : ∀ v l : Int, -3 ≤ l ∧ l ≤ 3 → 0 ≤ nxV es v l → nxV es v l < ((s.toNat : Nat) : Int) := by
 intro v l hl h0
 unfold isFo at h
 rw [Bool.and_eq_true] at h
 have hlim := isGr_lim h.1
 rcases nx_cases h.1 h.2 (v := v) (l := l) (by omega) with h1 | h1
 · omega
 · omega
def foundA (r : Int) (es : List Ed) (u : Int) : List Ar := arrN es (letsN r.toNat) u 41
theorem foundA_good {r s : Int} {es : List Ed} {u : Int} (h : isFo r s es = true) (hu : 0 ≤ u ∧ u < s) : GoodA s.toNat u (foundA r es u) := by
 have hg := h
 unfold isFo at hg
 rw [Bool.and_eq_true] at hg
 have hlim := isGr_lim hg.1
 exact good_arrN (by omega) (fun l hl => by have := letsN_in _ l hl; omega) (nx_lt h) 41
end Go.Proofs.YtpjlamnjiilgbaaGreat
namespace Go.Proofs.YtpjlamnjiilgbaaGreat
open Go.RowKit Go.Maps
set_option linter.unusedVariables false
set_option linter.unusedSimpArgs false
abbrev OwnsA (w : World) (base : Nat) (v : Value) (es : List Ed) : Prop := OwnsS 129 3 w base v es.length (flatE es)
theorem infoArr : (Tryz.prog.info? 129).map (fun i => (i.zero, i.size, i.bytes)) = some (some (.agg #[.int .i64 0, .int .i64 0, .int .i64 0]), 3, 24) := by kernel_rfl
theorem readA {w : World} {base B : Nat} {v : Value} {F : List Ed} (h : OwnsA w base v F) (hl : F.length ≤ 1000) (hB : w.heap.size ≤ B) : ReadE B w v F :=
 ((OwnsS.row h (by omega)).read).mono hB
theorem getD_map1 {S : List Ar} (j : Nat) : (S.map (·.1)).getD j e0 = (S.getD j d0).1 := by
 rw [List.getD_eq_getElem?_getD, List.getElem?_map, List.getD_eq_getElem?_getD]
 cases S[j]? <;> rfl
theorem wpList_pushA_at {w0 : World} {ops : Array Oper} {rest : List Oper} {o : Oper} {a : Act} {Q : Exit → Act → World → Prop} (hgd : o.guard = none) (s x : Operand)
 (ho : o.op = .call { callee := .builtin .append, args := #[s, x], argTypes := #[75, 75] }) (base : Nat) (v : Value) (es : List Ed) (f l t : Int)
 (hs : a.eval s = v) (hx : a.eval x = .slice (some ⟨w0.heap.size, 0, none⟩) 1 1) (hown : OwnsA w0 base v es) (hl : es.length ≤ 1000000000) (hbase : base ≤ w0.heap.size)
 (h : ∀ v' w', OwnsA w' base v' (es ++ [(f, l, t)]) → (w0.alloc (.cells #[.int .i64 f, .int .i64 l, .int .i64 t] 129)).grownBy w' v.ownBlock → (v'.ownBlock = v.ownBlock ∨ v'.ownBlock = some (w0.heap.size + 1)) → wpList Tryz.prog ops Q rest (a.put o.dst v') w') :
 wpList Tryz.prog ops Q (o :: rest) a (w0.alloc (.cells #[.int .i64 f, .int .i64 l, .int .i64 t] 129)) := by
 obtain ⟨i0, hi, hz0, hz1, hz2⟩ := info_parts infoArr
 refine wpList_append_own_at _ hgd s x 75 ho base 129 i0 _ 3 24 Tryz.underlying75 hi hz0 hz1 hz2 rfl (by decide) v es.length ((flatE es).map iv) hs (World.ownsRow.alloc hown _) ⟨w0.heap.size, 0, none⟩ 1 1 [iv f, iv l, iv t] hx rfl ?_ ?_ ?_ ?_ ?_ ?_
 · intro j u hj
   have hk := heap_alloc_new w0 (.cells #[.int .i64 f, .int .i64 l, .int .i64 t] 129)
   rw [addr_plus, Nat.zero_add]
   have c := cell_of_heap hk j
   match j, hj with
   | 0, hj => simp at hj; subst hj; simp [iv]
   | 1, hj => simp at hj; subst hj; simp [iv]
   | 2, hj => simp at hj; subst hj; simp [iv]
 · intro u hu
   simp at hu
   rcases hu with rfl | rfl | rfl <;> rfl
 · unfold maxLen; omega
 · omega
 · simp; omega
 · intro v' w' ho' hg _ hw
   refine h v' w' (by unfold OwnsA OwnsS; rw [flatE_append]; simpa [flatE] using ho') hg (by simpa using hw)
theorem OwnsA.other {w w' : World} {base : Nat} {v : Value} {F : List Ed} (h : OwnsA w base v F) (hb : ∀ k, v.ownBlock = some k → w'.heap[k]? = w.heap[k]?) : OwnsA w' base v F := by
 obtain ⟨h1, h2 | ⟨g, cap, cur, rfl, hg, hh, hr⟩⟩ := h
 · exact ⟨h1, .inl h2⟩
 · exact ⟨h1, .inr ⟨g, cap, cur, rfl, hg, (hb g rfl).trans hh, hr⟩⟩
theorem OwnsA.form0 {w : World} {base : Nat} {v : Value} {F : List Ed} (h : OwnsA w base v F) (h0 : 0 < F.length) : ∃ g cap, v = .slice (some ⟨g, 0, none⟩) F.length cap ∧ base ≤ g ∧ g < w.heap.size ∧ F.length ≤ cap := by
 have hlt := World.ownsRow.lt h
 obtain ⟨h1, ⟨_, h2⟩ | ⟨g, cap, cur, rfl, hg, hh, hc, hr⟩⟩ := h
 · omega
 · exact ⟨g, cap, rfl, hg, (hlt g rfl).2, hc⟩
def FoundAt (w : World) (base G : Nat) (o : Value) (S : List Ar) : Prop := OwnsA w base o (S.map (·.1)) ∧ BoolsAt w G (vts S) ∧ ∀ b, o.ownBlock = some b → b ≠ G
theorem arr1_yes {es : List Ed} {i : Nat} {S : List Ar} {l y : Int} (hy : y = nxV es (S.getD i d0).1.1 l) (h0 : 0 ≤ y) (hn : y ∉ vts S) : arr1 es i S l = S ++ [((y, l, (i : Int)), (S.getD i d0).2 ++ [l])] := by
 unfold arr1; rw [← hy, if_pos ⟨h0, hn⟩]
theorem arr1_no {es : List Ed} {i : Nat} {S : List Ar} {l y : Int} (hy : y = nxV es (S.getD i d0).1.1 l) (h : y < 0 ∨ y ∈ vts S) : arr1 es i S l = S := by
 unfold arr1; rw [← hy, if_neg]
 rintro ⟨h0, hn⟩
 rcases h with h | h
 · omega
 · exact hn h
theorem vts_more (S : List Ar) (x : Ar) {u : Int} : u ∈ vts (S ++ [x]) ↔ u ∈ vts S ∨ u = x.1.1 := by
 unfold vts
 rw [List.map_append, List.mem_append]
 simp
def KeepL (lo hi : Nat) (wl w : World) : Prop := ∀ j, lo ≤ j → j < hi → w.heap[j]? = wl.heap[j]?
def LwFound (w : World) (F : List Ed) (e : Ending) (w' : World) : Prop := ∃ v, e = .returned v ∧ ReadE w'.heap.size w' v F ∧ Below w.heap.size w w'
set_option maxRecDepth 100000 in
set_option maxHeartbeats 6400000 in
theorem search_any (w : World) (rN sN uN bm : Nat) (es : List Ed) (hfo : isFo (rN : Int) (sN : Int) es = true) (hm : MapS w bm (2 * es.length) (stD es es.length)) (hbm : bm < w.heap.size) (hu : uN < sN) :
 Calls Tryz.prog 88 #[.int .i64 (rN : Int), .map (some bm), .int .i64 (uN : Int)] w (LwFound w ((foundA (rN : Int) es (uN : Int)).map (·.1))) := by
 have hfo' := hfo
 unfold isFo at hfo'
 rw [Bool.and_eq_true] at hfo'
 have hlim := isGr_lim hfo'.1
 have hs40 : sN ≤ 40 := by omega
 have hr3 : rN ≤ 3 := by omega
 obtain ⟨LS, hLS⟩ := exq (letsN rN)
 have hLl : LS.length = 2 * rN := by rw [hLS]; exact letsN_length rN
 have hLin : ∀ l ∈ LS, -3 ≤ l ∧ l ≤ 3 := fun l hl => by rw [hLS] at hl; have := letsN_in rN l hl; omega
 have hN := nx_lt hfo
 have hN' : ∀ v l : Int, -3 ≤ l ∧ l ≤ 3 → 0 ≤ nxV es v l → nxV es v l < (sN : Int) := fun v l h h0 => by have := hN v l h h0; omega
 have hgood : ∀ k, GoodA sN (uN : Int) (arrN es LS (uN : Int) k) := good_arrN (by omega) hLin hN'
 have hfound : foundA (rN : Int) es (uN : Int) = arrN es LS (uN : Int) 41 := by unfold foundA; rw [hLS]; rfl
 rw [hfound]
 obtain ⟨n, hn⟩ := exq (2 * es.length)
 obtain ⟨D, hD⟩ := exq (stD es es.length)
 rw [← hn, ← hD] at hm
 have hlook : ∀ v l : Int, I64 v → I64 l → (has D (kS v l) = true ∧ 0 ≤ nxV es v l ∧ nxV es v l < (sN : Int) ∧ D.atKey (kS v l) (.lit (.int .i64 0)) = .lit (.int .i64 (nxV es v l))) ∨ (has D (kS v l) = false ∧ nxV es v l = -1) := fun v l hv hl => by
  rw [hD]; exact stD_look hfo'.1 hfo'.2 hv hl
 obtain ⟨wA, hwA⟩ := exq (w.alloc (.cells #[.int .i64 (uN : Int), .int .i64 0, .int .i64 0] 129))
 have hbA : Below w.heap.size w wA := by rw [hwA]; exact (Below.refl _ _).alloc (Nat.le_refl _) _
 have hsA : wA.heap.size = w.heap.size + 1 := by rw [hwA]; simp
 have hownA : OwnsA wA w.heap.size (.slice (some ⟨w.heap.size, 0, none⟩) 1 1) [((uN : Int), 0, 0)] := by
  refine ⟨rfl, .inr ⟨w.heap.size, 1, #[.int .i64 (uN : Int), .int .i64 0, .int .i64 0], rfl, Nat.le_refl _, by rw [hwA]; exact heap_alloc_new _ _, Nat.le_refl _, by unfold maxLen; omega, rfl, rfl⟩⟩
 obtain ⟨w4, hw4⟩ := exq (wA.alloc (.cells #[.bool false, .bool false, .bool false, .bool false, .bool false, .bool false, .bool false, .bool false, .bool false, .bool false, .bool false, .bool false, .bool false, .bool false, .bool false, .bool false, .bool false, .bool false, .bool false, .bool false, .bool false, .bool false, .bool false, .bool false, .bool false, .bool false, .bool false, .bool false, .bool false, .bool false, .bool false, .bool false, .bool false, .bool false, .bool false, .bool false, .bool false, .bool false, .bool false, .bool false] 130))
 have hG4 : BoolsAt w4 wA.heap.size [] := by rw [hw4]; exact BoolsAt.none40 wA
 have hb4 : Below wA.heap.size wA w4 := by rw [hw4]; exact (Below.refl _ _).alloc (Nat.le_refl _) _
 have cX := hG4.cell uN (by omega)
 rw [show decide (((uN : Nat) : Int) ∈ ([] : List Int)) = false from rfl] at cX
 have fX := fun j => hG4.frozen j
 obtain ⟨w5, hw5⟩ := exq (w4.setCell ⟨wA.heap.size, uN, none⟩ (.bool true))
 have hb5 : Below wA.heap.size wA w5 := by rw [hw5]; exact hb4.setCell (p := ⟨wA.heap.size, uN, none⟩) (Nat.le_refl _) (.bool true)
 have hG5 : BoolsAt w5 wA.heap.size (vts [(((uN : Int), 0, 0), [])]) := by rw [hw5]; exact hG4.set uN (by omega) (fun u hu => cons_set)
 have hF5 : FoundAt w5 w.heap.size wA.heap.size (.slice (some ⟨w.heap.size, 0, none⟩) 1 1) (arrN es LS (uN : Int) 0) :=
  ⟨OwnsA.other hownA (fun k hk => hb5.block k (by have h2 : w.heap.size = k := (by simpa [Value.ownBlock] using hk); omega)), hG5, fun b hb => by have h2 : w.heap.size = b := (by simpa [Value.ownBlock] using hb); omega⟩
 have hbw5 : Below w.heap.size w w5 := hbA.trans (hb5.mono (by omega))
 have hu40 : (uN : Int) < 40 := by omega
 obtain ⟨R, hR⟩ := exq (arrN es LS (uN : Int) 41)
 rw [← hR]
 replace hR := hidI hR
 replace hfo := hidI hfo
 replace hfo' := hidI hfo'
 replace hlim := hidI hlim
 replace hLS := hidI hLS
 replace hLl := hidI hLl
 replace hLin := hidI hLin
 replace hN := hidI hN
 replace hN' := hidI hN'
 replace hgood := hidI hgood
 replace hlook := hidI hlook
 replace hm := hidI hm
 replace hn := hidI hn
 replace hD := hidI hD
 replace hsA := hidI hsA
 replace hF5 := hidI hF5
 replace hbw5 := hidI hbw5
 replace hw5 := hidI hw5
 clear hfound hbA hownA hG4 hb4 hb5 hG5
 go_enter Tryz.func88, Tryz.ntmps88
 go_upto_region 2 with fail
 rw [← hwA]
 replace hwA := hidI hwA
 go_upto_region 3 with fail
 rw [← hw4]
 replace hw4 := hidI hw4
 go_wp2
 rw [← hw5.out]
 clear cX fX
 go_loopg [7, 9, 11, 12, 13] 41 (fun g o i q1 q2 q3 wr => ∃ k : Nat, k + g = 41 ∧ i = .int .i64 k ∧ Hid (FoundAt wr w.heap.size wA.heap.size o (arrN es LS (uN : Int) k)) ∧ Hid (Below w.heap.size w wr))
 case atStart => exact ⟨0, by omega, rfl, hF5, hbw5⟩
 case round =>
  clear hF5 hbw5
  obtain ⟨k, hk, rfl, hF, hb⟩ := hrel
  obtain ⟨S0, hS0⟩ := exq (arrN es LS (uN : Int) k)
  have hgk := hgood.out k
  rw [← hS0] at hF hgk
  have hlen := hgk.length
  have hpos := hgk.pos
  obtain ⟨g, cap, ho, hg1, hg2, hc⟩ := OwnsA.form0 hF.out.1 (by rw [List.length_map]; exact hpos)
  rw [List.length_map] at ho hc
  subst ho
  obtain ⟨m, hm0⟩ := exq S0.length
  rw [← hm0] at hF hlen hpos hc ⊢
  have hbsz := hb.out.size
  by_cases hlt : k < m
  · have hki : (k : Int) < (m : Int) := by omega
    have hnext : arrN es LS (uN : Int) (k + 1) = LS.foldl (arr1 es k) S0 := by rw [arrN, ← hS0, if_pos (by rw [← hm0]; exact hlt)]
    have hcl := progLets wr rN hr3
    rw [← hLS.out] at hcl
    replace hS0 := hidI hS0
    replace hm0 := hidI hm0
    replace hnext := hidI hnext
    replace hk := hidI hk
    replace hgk := hidI hgk
    obtain ⟨M, hM⟩ := exq LS.length
    go_wp2_with fail
    refine hcl.mono ?_
    rintro e wl ⟨vl, rfl, hrowl, hbl⟩
    clear hcl
    have hM6 : M ≤ 6 := by rw [hM, hLl.out]; omega
    obtain ⟨al, cl, rfl⟩ : ∃ a c, vl = Value.slice a M c := by
     obtain ⟨_, ⟨h1, h2⟩ | ⟨g, off, cap, cur, h1, _⟩⟩ := hrowl
     · exact ⟨_, _, by rw [h1, hM, h2]; rfl⟩
     · exact ⟨_, _, by rw [hM]; exact h1⟩
    have hFl : FoundAt wl w.heap.size wA.heap.size (.slice (some ⟨g, 0, none⟩) m cap) S0 :=
     ⟨OwnsA.other hF.out.1 (fun k hk => hbl.block k (by cases hk; exact hg2)), hF.out.2.1.below hbl hF.out.2.1.lt, hF.out.2.2⟩
    have hFl' := hidI (show FoundAt wl w.heap.size wA.heap.size (.slice (some ⟨g, 0, none⟩) m cap) ((LS.take 0).foldl (arr1 es k) S0) ∧ (∀ b, Value.ownBlock (.slice (some ⟨g, 0, none⟩) m cap) = some b → b < wr.heap.size ∨ wl.heap.size ≤ b) from ⟨hFl, fun b hb => by cases hb; exact .inl hg2⟩)
    have hkeep0 : Hid (KeepL wr.heap.size wl.heap.size wl wl) := hidI (fun j _ _ => rfl)
    have hbwl := hidI (hb.out.trans (hbl.mono hbsz))
    have hswl := hidI hbl.size
    obtain ⟨Bl, hBl⟩ := exq wr.heap.size
    have hGB := hF.out.2.1.lt
    rw [← hBl] at hFl' hkeep0 hrowl hswl hbsz hg2 hGB
    replace hGB := hidI hGB
    replace hBl := hidI hBl
    replace hrowl := hidI hrowl
    replace hM := hidI hM
    clear hF hb hbl hFl
    go_wp2
    go_loopg [7, 11, 12, 13, 28] M (fun g o q1 q2 q3 i wr => ∃ j : Nat, j + g = M ∧ i = .int .i64 j ∧ Hid (FoundAt wr w.heap.size wA.heap.size o ((LS.take j).foldl (arr1 es k) S0) ∧ (∀ b, o.ownBlock = some b → b < Bl ∨ wl.heap.size ≤ b)) ∧ Hid (KeepL Bl wl.heap.size wl wr) ∧ Hid (Below w.heap.size w wr) ∧ Hid (wl.heap.size ≤ wr.heap.size))
    case atStart => exact ⟨0, by omega, rfl, hFl', hkeep0, hbwl, hidI (Nat.le_refl _)⟩
    case round =>
     clear hFl' hkeep0 hbwl
     obtain ⟨j, hj, rfl, hF, hkeep, hb, hsw⟩ := hrel
     by_cases hlt2 : j < M
     · have hji : (j : Int) < (M : Int) := by omega
       obtain ⟨S, hS⟩ := exq ((LS.take j).foldl (arr1 es k) S0)
       have hgS : GoodA sN (uN : Int) S := by
        rw [hS]
        exact good_foldl _ hgk.out (by have := hm0.out; omega) (fun l hl => hLin.out l (List.mem_of_mem_take hl)) hN'.out
       have hkS : m ≤ S.length := by
        rw [hS]
        have : ∀ (ls : List Int) (S' : List Ar), S'.length ≤ (ls.foldl (arr1 es k) S').length := by
         intro ls
         induction ls with
         | nil => intro S'; exact Nat.le_refl _
         | cons l ls ih => intro S'; exact Nat.le_trans (arr1_le es k S' l) (ih _)
        have := this (LS.take j) S0
        have := hm0.out
        omega
       rw [← hS] at hF
       have hSl := hgS.length
       obtain ⟨g', cap', ho', hg1', hg2', hc'⟩ := OwnsA.form0 hF.out.1.1 (by rw [List.length_map]; exact hgS.pos)
       rw [List.length_map] at ho' hc'
       subst ho'
       obtain ⟨p, hp0⟩ := exq S.length
       have hread := readA hF.out.1.1 (by rw [List.length_map]; omega) (Nat.le_refl _)
       rw [← hp0] at hF hread hc' hSl hkS ⊢
       obtain ⟨b', off', hab', hB', c0, c1, c2⟩ := ReadE.at3 hread k (by rw [List.length_map]; omega)
       simp only [Option.some.injEq, Addr.mk.injEq, and_true] at hab'
       obtain ⟨rfl, rfl⟩ := hab'
       rw [getD_map1] at c0 c1 c2
       simp only [Nat.zero_add] at c0
       obtain ⟨x, hx⟩ := exq ((S.getD k d0).1.1)
       have hxb := hgS.vert k (by omega)
       rw [← hx] at c0 hxb
       have hrl := (hrowl.out.keep hkeep.out).read
       obtain ⟨bl, ol, rfl, hbll, cl0⟩ := hrl.at2 j (by have := hM.out; omega)
       obtain ⟨l, hl⟩ := exq (LS.getD j 0)
       have hlin : -3 ≤ l ∧ l ≤ 3 := hLin.out l (by
        have hjl : j < LS.length := by have := hM.out; omega
        rw [hl, List.getD_eq_getElem?_getD, List.getElem?_eq_getElem hjl]
        exact List.getElem_mem hjl)
       rw [← hl] at cl0
       have hSn : (LS.take (j + 1)).foldl (arr1 es k) S0 = arr1 es k S l := by
        have hjl : j < LS.length := by have := hM.out; omega
        rw [List.take_add_one, List.getElem?_eq_getElem hjl, Option.toList_some, List.foldl_append, ← hS, hl, List.getD_eq_getElem?_getD, List.getElem?_eq_getElem hjl]
        rfl
       have hky := kS_key x l (by unfold I64; omega) (by unfold I64; omega)
       have hlk := hlook.out x l (by unfold I64; omega) (by unfold I64; omega)
       have hmD := hidI (hm.out.below hb.out hbm)
       obtain ⟨y, hy⟩ := exq (nxV es x l)
       rw [← hy] at hlk
       rw [hx] at hy
       replace hS := hidI hS
       replace hgS := hidI hgS
       replace hp0 := hidI hp0
       replace hx := hidI hx
       replace hl := hidI hl
       replace hj := hidI hj
       replace hread := hidI hread
       replace hky := hidI hky
       replace hrl := hidI hrl
       have hkp : k < p := by omega
       have hkpi : (k : Int) < (p : Int) := by omega
       clear c1 c2
       rcases hlk with ⟨hh, hy0, hys, hat⟩ | ⟨hh, hyn⟩
       · obtain ⟨yN, rfl⟩ : ∃ z : Nat, y = (z : Int) := ⟨y.toNat, by omega⟩
         have hyi : (yN : Int) < 40 := by omega
         have hy40 : yN < 40 := by omega
         have cY := hF.out.1.2.1.cell yN hy40
         by_cases hin : (yN : Int) ∈ vts S
         · have d1 : decide ((yN : Int) ∈ vts S) = true := decide_eq_true hin
           rw [d1] at cY
           have hno := arr1_no hy (.inr hin)
           have hF' := hidI (show FoundAt wr w.heap.size wA.heap.size (.slice (some ⟨g', 0, none⟩) p cap') ((LS.take (j + 1)).foldl (arr1 es k) S0) ∧ (∀ b, Value.ownBlock (.slice (some ⟨g', 0, none⟩) p cap') = some b → b < Bl ∨ wl.heap.size ≤ b) from by rw [hSn, hno]; exact hF.out)
           replace hy := hidI hy
           replace hSn := hidI hSn
           replace hat := hidI hat
           replace hno := hidI hno
           replace hin := hidI hin
           go_wp2_with (at_lookup; go_must (refine wpList_lookup_own_ok_int _ rfl _ _ 58 rfl 96 3 .i64 lawS Tryz.underlying58 Tryz.underlying3 (zeroInt _) bm _ D rfl hmD.out _ _ rfl hky.out ?_; intro c hc2 hwc; obtain rfl : c = (yN : Int) := by (rw [hat.out] at hc2; simpa using hc2.symm)))
           try clear hc2 hwc
           go_wp2
           go_roundg (M - (j + 1))
           case rel => exact ⟨j + 1, by have := hj.out; omega, by go_num, hF', hkeep, hb, hsw⟩
           case measure => have := hj.out; omega
         · have d1 : decide ((yN : Int) ∈ vts S) = false := decide_eq_false hin
           rw [d1] at cY
           have hyes := arr1_yes hy (by omega) hin
           have fY := fun q => hF.out.1.2.1.frozen q
           obtain ⟨w7, hw7⟩ := exq (wr.setCell ⟨wA.heap.size, yN, none⟩ (.bool true))
           have hne := hF.out.1.2.2 g' rfl
           have hGlt := hF.out.1.2.1.lt
           have hG7 : BoolsAt w7 wA.heap.size ((yN : Int) :: vts S) := by rw [hw7]; exact hF.out.1.2.1.set yN hy40 (fun u hu => cons_set)
           have hown7 : OwnsA w7 w.heap.size (.slice (some ⟨g', 0, none⟩) p cap') (S.map (·.1)) := OwnsA.other hF.out.1.1 (fun q hq => by rw [hw7]; exact heap_setCell_other _ _ _ _ (by cases hq; exact hne))
           have hs7 : w7.heap.size = wr.heap.size := by rw [hw7]; exact setCell_size _ _ _
           have hb7 : Below w.heap.size w w7 := by rw [hw7]; exact hb.out.setCell (p := ⟨wA.heap.size, yN, none⟩) (by have := hsA.out; show w.heap.size ≤ wA.heap.size; omega) _
           have hsw' := hsw.out
           have hkeep7 : KeepL Bl wl.heap.size wl w7 := fun q h1 h2 => by
            rw [hw7, heap_setCell_other _ _ _ _ (by show q ≠ wA.heap.size; have := hGB.out; omega)]; exact hkeep.out q h1 h2
           have hbs : ∀ b, Value.ownBlock (.slice (some ⟨g', 0, none⟩) p cap') = some b → b < Bl ∨ wl.heap.size ≤ b := hF.out.2
           replace hw7 := hidI hw7
           replace hy := hidI hy
           replace hSn := hidI hSn
           replace hat := hidI hat
           replace hyes := hidI hyes
           replace hin := hidI hin
           replace hG7 := hidI hG7
           replace hown7 := hidI hown7
           replace hb7 := hidI hb7
           replace hkeep7 := hidI hkeep7
           replace hs7 := hidI hs7
           replace hbs := hidI hbs
           go_upto_region 12 with (at_lookup; go_must (refine wpList_lookup_own_ok_int _ rfl _ _ 58 rfl 96 3 .i64 lawS Tryz.underlying58 Tryz.underlying3 (zeroInt _) bm _ D rfl hmD.out _ _ rfl hky.out ?_; intro c hc2 hwc; obtain rfl : c = (yN : Int) := by (rw [hat.out] at hc2; simpa using hc2.symm)))
           go_upto_region 13 with fail
           rw [← hw7.out]
           clear cY fY
           go_wp2_with (at_builtin; go_must (refine wpList_pushA_at rfl _ _ rfl w.heap.size (.slice (some ⟨g', 0, none⟩) p cap') (S.map (·.1)) _ _ _ rfl rfl hown7.out (by rw [List.length_map, ← hp0.out]; omega) (by have := hb7.out.size; omega) ?_))
           intro v' w9 hown9 hg9 hloc
           have hs9 : w7.heap.size + 1 ≤ w9.heap.size := by have := hg9.size; simpa using this
           have hne9 : ∀ b, v'.ownBlock = some b → b = g' ∨ b = w7.heap.size + 1 := fun b hb => by
            rcases hloc with h | h
            · rw [h] at hb; exact .inl (by simpa [Value.ownBlock] using hb.symm)
            · rw [h] at hb; exact .inr (by simpa using hb.symm)
           have hold9 : ∀ q, q < w7.heap.size → q ≠ g' → w9.heap[q]? = w7.heap[q]? := fun q hq hqg => by
            rw [hg9.block q (by simp; omega) (by simp [Value.ownBlock]; exact hqg), heap_alloc_old _ _ hq]
           have hGlt7 : wA.heap.size < w7.heap.size := hG7.out.lt
           have hF9 : FoundAt w9 w.heap.size wA.heap.size v' ((LS.take (j + 1)).foldl (arr1 es k) S0) := by
            rw [hSn.out, hyes.out]
            refine ⟨by rw [List.map_append]; exact hown9, ?_, fun b hb => ?_⟩
            · obtain ⟨cur, q1, q2, q3⟩ := hG7.out
              have hG9 : BoolsAt w9 wA.heap.size ((yN : Int) :: vts S) := ⟨cur, by rw [hold9 _ hGlt7 (Ne.symm hne)]; exact q1, q2, q3⟩
              exact hG9.same (fun u hu => by rw [vts_more, List.mem_cons]; exact or_comm)
            · rcases hne9 b hb with h | h
              · rw [h]; exact hne
              · omega
           have hF' := hidI (show FoundAt w9 w.heap.size wA.heap.size v' ((LS.take (j + 1)).foldl (arr1 es k) S0) ∧ (∀ b, v'.ownBlock = some b → b < Bl ∨ wl.heap.size ≤ b) from ⟨hF9, fun b hb => by
            rcases hne9 b hb with h | h
            · rw [h]; exact hbs.out g' rfl
            · right; have := hs7.out; have := hsw.out; omega⟩)
           have hgne : g' < Bl ∨ wl.heap.size ≤ g' := hbs.out g' rfl
           have hkeep9 := hidI (show KeepL Bl wl.heap.size wl w9 from fun q h1 h2 => by
            rw [hold9 q (by have := hs7.out; have := hsw.out; omega) (by omega)]; exact hkeep7.out q h1 h2)
           have hb9 := hidI (show Below w.heap.size w w9 from (hb7.out.alloc hb7.out.size _).grown hg9 (by have := hb7.out.size; simp; omega) (fun q hq => by have h2 : g' = q := (by simpa [Value.ownBlock] using hq); omega))
           have hsw9 := hidI (show wl.heap.size ≤ w9.heap.size by have := hs7.out; have := hsw.out; omega)
           clear hown9 hg9 hloc hne9 hold9 hF9
           go_wp2
           go_roundg (M - (j + 1))
           case rel => exact ⟨j + 1, by have := hj.out; omega, by go_num, hF', hkeep9, hb9, hsw9⟩
           case measure => have := hj.out; omega
       · have hno := arr1_no hy (.inl (by omega))
         have hF' := hidI (show FoundAt wr w.heap.size wA.heap.size (.slice (some ⟨g', 0, none⟩) p cap') ((LS.take (j + 1)).foldl (arr1 es k) S0) ∧ (∀ b, Value.ownBlock (.slice (some ⟨g', 0, none⟩) p cap') = some b → b < Bl ∨ wl.heap.size ≤ b) from by rw [hSn, hno]; exact hF.out)
         replace hy := hidI hy
         replace hSn := hidI hSn
         replace hno := hidI hno
         replace hyn := hidI hyn
         go_wp2_with (at_lookup; go_must (refine wpList_lookup_own_ok_int _ rfl _ _ 58 rfl 96 3 .i64 lawS Tryz.underlying58 Tryz.underlying3 (zeroInt _) bm _ D rfl hmD.out _ _ rfl hky.out ?_; intro c hc2 hwc))
         try clear hc2 hwc
         go_wp2
         go_roundg (M - (j + 1))
         case rel => exact ⟨j + 1, by have := hj.out; omega, by go_num, hF', hkeep, hb, hsw⟩
         case measure => have := hj.out; omega
     · obtain rfl : j = M := by omega
       have hji : ¬ (j : Int) < (j : Int) := by omega
       have hfull : LS.take j = LS := List.take_of_length_le (by have := hM.out; omega)
       have hF9 := hidI (show FoundAt wr w.heap.size wA.heap.size u7 (arrN es LS (uN : Int) (k + 1)) by rw [hnext.out, ← hfull]; exact hF.out.1)
       replace hfull := hidI hfull
       replace hj := hidI hj
       go_wp2
       go_roundg (41 - (k + 1))
       case rel => exact ⟨k + 1, by have := hk.out; omega, by go_num, hF9, hb⟩
       case measure => have := hk.out; omega
  · have hki : ¬ (k : Int) < (m : Int) := by omega
    have hRk : R = S0 := by
     rw [hR.out, hS0]
     exact arrN_end (by rw [← hS0, ← hm0]; exact hlt) (by omega)
    have hr : LwFound w (R.map (·.1)) (.returned (.slice (some ⟨g, 0, none⟩) m cap)) wr := by
     refine ⟨_, rfl, ?_, hb.out⟩
     rw [hRk]
     exact readA hF.out.1 (by rw [List.length_map, ← hm0]; omega) (Nat.le_refl _)
    replace hr := hidI hr
    replace hRk := hidI hRk
    replace hS0 := hidI hS0
    replace hm0 := hidI hm0
    replace hk := hidI hk
    replace hgk := hidI hgk
    go_wp2
    go_ret
    exact hr.out
end Go.Proofs.YtpjlamnjiilgbaaGreat
namespace Go.Proofs.YtpjlamnjiilgbaaGreat
open Go.RowKit
set_option linter.unusedVariables false
set_option linter.unusedSimpArgs false
theorem vts_at {S : List Ar} {i : Nat} (h : i < S.length) : (vts S).getD i 0 = (S.getD i d0).1.1 := by
 unfold vts
 rw [List.getD_eq_getElem?_getD, List.getElem?_map, List.getElem?_eq_getElem h, List.getD_eq_getElem?_getD, List.getElem?_eq_getElem h]; rfl
theorem vts_arr1 (es : List Ed) (i : Nat) (S : List Ar) (l : Int) : vts (arr1 es i S l) = coS es (S.getD i d0).1.1 (vts S) l := by
 unfold arr1 coS
 split
 · unfold vts; rw [List.map_append]; rfl
 · rfl
theorem arr1_at (es : List Ed) {i j : Nat} {S : List Ar} (l : Int) (h : j < S.length) : (arr1 es i S l).getD j d0 = S.getD j d0 := by
 unfold arr1
 split
 · exact getD_left h
 · rfl
theorem vts_fold (es : List Ed) (i : Nat) : ∀ (ls : List Int) (S : List Ar), i < S.length → vts (ls.foldl (arr1 es i) S) = ls.foldl (coS es (S.getD i d0).1.1) (vts S) := by
 intro ls
 induction ls with
 | nil => intro S _; rfl
 | cons l ls ih =>
  intro S h
  rw [List.foldl_cons, List.foldl_cons, ih _ (Nat.lt_of_lt_of_le h (arr1_le es i S l)), vts_arr1, arr1_at es l h]
theorem vts_arrN (es : List Ed) (ls : List Int) : ∀ k, vts (arrN es ls 0 k) = coN es ls k := by
 intro k
 induction k with
 | zero => rfl
 | succ k ih =>
  have hl : (arrN es ls 0 k).length = (coN es ls k).length := by rw [← ih]; simp [vts]
  unfold arrN coN
  rw [← hl]
  by_cases h : k < (arrN es ls 0 k).length
  · rw [if_pos h, if_pos h, vts_fold es k ls _ h, ih, coR, List.take_length, ← ih, vts_at h]
  · rw [if_neg h, if_neg h]; exact ih
theorem found_order {r s : Int} {es : List Ed} (h : isFo r s es = true) : ((foundA r es 0).map (·.1)).map (·.1) = coL r s es (letsN r.toNat) := by
 have hg : isGr r s es = true := by unfold isFo at h; rw [Bool.and_eq_true] at h; exact h.1
 have hl := isGr_lim hg
 have hgood := good_arrN (s := s.toNat) (u := 0) (es := es) (ls := letsN r.toNat) (by omega) (fun l hl => by have := letsN_in r.toNat l hl; omega) (nx_lt h)
 have hend := arrN_end (es := es) (ls := letsN r.toNat) (u := 0) (k := 40) (by have := (hgood 40).length; omega) (by omega)
 unfold coL foundA
 rw [if_pos h, hend, ← vts_arrN, List.map_map]; rfl
end Go.Proofs.YtpjlamnjiilgbaaGreat
