import Derived.Laws.MakeOwn
import Derived.Maps.AppendAt
import Derived.Test.YtgnomlcjikfdhaaGreatJ3Me
import Derived.Test.YtgnomlcjikfdhaaGreatJ21Me
import Derived.Test.YtgnomlcjikfdhaaGreatJ27Me
namespace Go.Proofs.YtgnomlcjikfdhaaGreat
open Go.RowKit
set_option linter.unusedVariables false
set_option linter.unusedSimpArgs false
abbrev Ar := Ed × List Int
def d0 : Ar := (e0, [])
def jh (S : List Ar) : List Int := S.map (·.1.1)
def arr1 (es : List Ed) (i : Nat) (S : List Ar) (l : Int) : List Ar :=
 if 0 ≤ aV es (S.getD i d0).1.1 l ∧ aV es (S.getD i d0).1.1 l ∉ jh S then S ++ [((aV es (S.getD i d0).1.1 l, l, (i : Int)), (S.getD i d0).2 ++ [l])] else S
def gY (es : List Ed) (ls : List Int) (u : Int) : Nat → List Ar
 | 0 => [((u, 0, 0), [])]
 | k + 1 => if k < (gY es ls u k).length then ls.foldl (arr1 es k) (gY es ls u k) else gY es ls u k
theorem jc {S T : List Ar} {j : Nat} (h : j < S.length) : (S ++ T).getD j d0 = S.getD j d0 := by
 rw [gD, List.getElem?_append_left h, ← gD]
theorem nN (S : List Ar) (x : Ar) : (S ++ [x]).getD S.length d0 = x := by
 rw [gD, List.getElem?_append_right (nl _)]; simp
structure lZ (s : Nat) (u : Int) (S : List Ar) : Prop where
 pos : 0 < S.length
 zero : S.getD 0 d0 = ((u, 0, 0), [])
 back : ∀ j, 0 < j → j < S.length → ∃ b : Nat, b < j ∧ (S.getD j d0).1.2.2 = (b : Int) ∧ (S.getD j d0).2 = (S.getD b d0).2 ++ [(S.getD j d0).1.2.1]
 vert : ∀ j, j < S.length → 0 ≤ (S.getD j d0).1.1 ∧ (S.getD j d0).1.1 < (s : Int)
 cnt : S.length ≤ ui s (jh S)
 wlen : ∀ j, j < S.length → (S.getD j d0).2.length ≤ j
 lets : ∀ j, j < S.length → -3 ≤ (S.getD j d0).1.2.1 ∧ (S.getD j d0).1.2.1 ≤ 3
theorem lZ.length {s : Nat} {u : Int} {S : List Ar} (h : lZ s u S) : S.length ≤ s := Nat.le_trans h.cnt (Gh s _)
theorem good_start {s : Nat} {u : Int} (hu : 0 ≤ u ∧ u < (s : Int)) : lZ s u [((u, 0, 0), [])] where
 pos := by simp
 zero := rfl
 back := fun j h0 h1 => by simp at h1; omega
 vert := fun j h => by
  have : j = 0 := by simpa using h
  subst this; exact hu
 cnt := by
  refine List.one_le_countP_iff.2 ⟨u.toNat, List.mem_range.2 (by omega), ?_⟩
  exact decide_eq_true (by rw [show ((u.toNat : Nat) : Int) = u by omega]; simp [jh])
 wlen := fun j h => by
  have : j = 0 := by simpa using h
  subst this; simp
 lets := fun j h => by
  have : j = 0 := by simpa using h
  subst this; simp
theorem GI {s : Nat} {u : Int} {es : List Ed} {S : List Ar} {i : Nat} {l : Int} (h : lZ s u S) (hi : i < S.length) (hl : -3 ≤ l ∧ l ≤ 3) (hN : ∀ v, 0 ≤ aV es v l → aV es v l < (s : Int)) : lZ s u (arr1 es i S l) := by
 unfold arr1; split
 case isFalse => exact h
 case isTrue hc =>
  obtain ⟨y, hy⟩ := ag (aV es (S.getD i d0).1.1 l); have hyN := hN (S.getD i d0).1.1 hc.1; rw [← hy] at hc hyN ⊢; obtain ⟨X, hX⟩ : ∃ X : Ar, X = ((y, l, (i : Int)), (S.getD i d0).2 ++ [l]) := ⟨_, rfl⟩; rw [← hX]; have hcase : ∀ j, j < (S ++ [X]).length → j < S.length ∨ j = S.length := fun j hj => by simp at hj; omega
  constructor
  · simp
  · rw [jc h.pos]; exact h.zero
  · intro j h0 hj
    rcases hcase j hj with hj | rfl
    · obtain ⟨b, hb, h1, h2⟩ := h.back j h0 hj
      refine ⟨b, hb, ?_, ?_⟩
      · rw [jc hj]; exact h1
      · rw [jc hj, jc (by omega)]; exact h2
    · refine ⟨i, hi, ?_, ?_⟩
      · rw [nN, hX]
      · rw [nN, jc hi, hX]
  · intro j hj
    rcases hcase j hj with hj | rfl
    · rw [jc hj]; exact h.vert j hj
    · rw [nN, hX]; exact ⟨hc.1, hyN⟩
  · have hm : ui s (jh S) + 1 ≤ ui s (jh (S ++ [X])) := by
     refine cnt_lt (fun x hx hp => decide_eq_true ?_) ⟨y.toNat, List.mem_range.2 (by omega), ?_, ?_⟩
     · have := of_decide_eq_true hp
       unfold jh at this ⊢; rw [List.map_append, List.mem_append]; exact .inl this
     · refine decide_eq_true ?_
       rw [show ((y.toNat : Nat) : Int) = y by omega]
       unfold jh; rw [List.map_append, List.mem_append, hX]; exact .inr (by simp)
     · rw [show ((y.toNat : Nat) : Int) = y by omega]; exact decide_eq_false hc.2
    have := h.cnt; simp only [List.length_append, List.length_cons, List.length_nil]; omega
  · intro j hj
    rcases hcase j hj with hj | rfl
    · rw [jc hj]; exact h.wlen j hj
    · rw [nN, hX]
      have := h.wlen i hi; show ((S.getD i d0).2 ++ [l]).length ≤ S.length
      rw [List.length_append, List.length_singleton]; omega
  · intro j hj
    rcases hcase j hj with hj | rfl
    · rw [jc hj]; exact h.lets j hj
    · rw [nN, hX]; exact hl
theorem yT (es : List Ed) (i : Nat) (S : List Ar) (l : Int) : S.length ≤ (arr1 es i S l).length := by
 unfold arr1; split
 · simp
 · exact nl _
theorem yl {s : Nat} {u : Int} {es : List Ed} {i : Nat} : ∀ (ls : List Int) {S : List Ar}, lZ s u S → i < S.length → (∀ l ∈ ls, -3 ≤ l ∧ l ≤ 3) → (∀ v l, -3 ≤ l ∧ l ≤ 3 → 0 ≤ aV es v l → aV es v l < (s : Int)) → lZ s u (ls.foldl (arr1 es i) S) := by
 intro ls
 induction ls with
 | nil => intro S h _ _ _; exact h
 | cons l ls ih =>
  intro S h hi hl hN; exact ih (GI h hi (hl l List.mem_cons_self) (fun v => hN v l (hl l List.mem_cons_self))) (Nat.lt_of_lt_of_le hi (yT es i S l)) (fun l' h' => hl l' (List.mem_cons_of_mem _ h')) hN
theorem tX {s : Nat} {u : Int} {es : List Ed} {ls : List Int} (hu : 0 ≤ u ∧ u < (s : Int)) (hl : ∀ l ∈ ls, -3 ≤ l ∧ l ≤ 3) (hN : ∀ v l, -3 ≤ l ∧ l ≤ 3 → 0 ≤ aV es v l → aV es v l < (s : Int)) : ∀ k, lZ s u (gY es ls u k) := by
 intro k
 induction k with
 | zero => exact good_start hu
 | succ k ih =>
  rw [gY]; split
  · rename_i h; exact yl ls ih h hl hN
  · exact ih
theorem FQ {es : List Ed} {ls : List Int} {u : Int} {k : Nat} (h : ¬ k < (gY es ls u k).length) : ∀ m, gY es ls u (k + m) = gY es ls u k := by
 intro m
 induction m with
 | zero => rfl
 | succ m ih =>
  show gY es ls u (k + m + 1) = _
  rw [gY, ih, if_neg (by omega)]
theorem BR {es : List Ed} {ls : List Int} {u : Int} {k : Nat} (h : ¬ k < (gY es ls u k).length) (hk : k ≤ 41) : gY es ls u 41 = gY es ls u k := by
 have := FQ h (41 - k); rwa [show k + (41 - k) = 41 by omega] at this
theorem ED {r s : Int} {es : List Ed} (h : bJ r s es = true) : ∀ v l : Int, -3 ≤ l ∧ l ≤ 3 → 0 ≤ aV es v l → aV es v l < ((s.toNat : Nat) : Int) := by
 intro v l hl h0; unfold bJ at h; rw [Bool.and_eq_true] at h; have hlim := aZ h.1
 rcases oZ h.1 h.2 (v := v) (l := l) (by omega) with h1 | h1
 · omega
 · omega
def lW (r : Int) (es : List Ed) (u : Int) : List Ar := gY es (bH r.toNat) u 41
theorem Ci {r s : Int} {es : List Ed} {u : Int} (h : bJ r s es = true) (hu : 0 ≤ u ∧ u < s) : lZ s.toNat u (lW r es u) := by
 have hg := h; unfold bJ at hg; rw [Bool.and_eq_true] at hg; have hlim := aZ hg.1; exact tX (by omega) (fun l hl => by have := oL _ l hl; omega) (ED h) 41
open Go.RowKit Go.Maps
abbrev iZ (w : World) (base : Nat) (v : Value) (es : List Ed) : Prop := bG 99 3 w base v es.length (aC es)
theorem Lh : (Tryz.prog.info? 99).map (fun i => (i.zero, i.size, i.bytes)) = some (some (.agg #[.int .i64 0, .int .i64 0, .int .i64 0]), 3, 24) := by kernel_rfl
theorem readA {w : World} {base B : Nat} {v : Value} {F : List Ed} (h : iZ w base v F) (hl : F.length ≤ 1000) (hB : w.heap.size ≤ B) : ay B w v F :=
 ((bG.row h (by omega)).read).mono hB
theorem FH {S : List Ar} (j : Nat) : (S.map (·.1)).getD j e0 = (S.getD j d0).1 := by
 rw [gD, List.getElem?_map, gD]
 cases S[j]? <;> rfl
theorem xZ {w0 : World} {ops : Array Oper} {rest : List Oper} {o : Oper} {a : Act} {Q : Exit → Act → World → Prop} (hgd : o.guard = none) (s x : Operand)
 (ho : o.op = .call { callee := .builtin .append, args := #[s, x], argTypes := #[60, 60] }) (base : Nat) (v : Value) (es : List Ed) (f l t : Int)
 (hs : a.eval s = v) (hx : a.eval x = .slice (some ⟨w0.heap.size, 0, none⟩) 1 1) (hown : iZ w0 base v es) (hl : es.length ≤ 1000000000) (hbase : base ≤ w0.heap.size)
 (h : ∀ v' w', iZ w' base v' (es ++ [(f, l, t)]) → (w0.alloc (.cells #[.int .i64 f, .int .i64 l, .int .i64 t] 99)).grownBy w' v.ownBlock → (v'.ownBlock = v.ownBlock ∨ v'.ownBlock = some (w0.heap.size + 1)) → wpList Tryz.prog ops Q rest (a.put o.dst v') w') :
 wpList Tryz.prog ops Q (o :: rest) a (w0.alloc (.cells #[.int .i64 f, .int .i64 l, .int .i64 t] 99)) := by
 obtain ⟨i0, hi, hz0, hz1, hz2⟩ := info_parts Lh; refine wpList_append_own_at _ hgd s x 60 ho base 99 i0 _ 3 24 Tryz.underlying60 hi hz0 hz1 hz2 rfl (by decide) v es.length ((aC es).map iv) hs (World.ownsRow.alloc hown _) ⟨w0.heap.size, 0, none⟩ 1 1 [iv f, iv l, iv t] hx rfl ?_ ?_ ?_ ?_ ?_ ?_
 · intro j u hj
   have hk := heap_alloc_new w0 (.cells #[.int .i64 f, .int .i64 l, .int .i64 t] 99); rw [iy, Nat.zero_add]; have c := cell_of_heap hk j
   match j, hj with
   | 0, hj => simp at hj; subst hj; simp [iv]
   | 1, hj => simp at hj; subst hj; simp [iv]
   | 2, hj => simp at hj; subst hj; simp [iv]
 · intro u hu
   simp at hu
   rcases hu with rfl | rfl | rfl <;> rfl
 · unfold maxLen; omega
 · omega
 · simp; omega
 · intro v' w' ho' hg _ hw
   refine h v' w' (by unfold iZ bG; rw [jo]; simpa [aC] using ho') hg (by simpa using hw)
theorem iZ.other {w w' : World} {base : Nat} {v : Value} {F : List Ed} (h : iZ w base v F) (hb : ∀ k, v.ownBlock = some k → w'.heap[k]? = w.heap[k]?) : iZ w' base v F := by
 obtain ⟨h1, h2 | ⟨g, cap, cur, rfl, hg, hh, hr⟩⟩ := h
 · exact ⟨h1, .inl h2⟩
 · exact ⟨h1, .inr ⟨g, cap, cur, rfl, hg, (hb g rfl).trans hh, hr⟩⟩
theorem iZ.form0 {w : World} {base : Nat} {v : Value} {F : List Ed} (h : iZ w base v F) (h0 : 0 < F.length) : ∃ g cap, v = .slice (some ⟨g, 0, none⟩) F.length cap ∧ base ≤ g ∧ g < w.heap.size ∧ F.length ≤ cap := by
 have hlt := World.ownsRow.lt h; obtain ⟨h1, ⟨_, h2⟩ | ⟨g, cap, cur, rfl, hg, hh, hc, hr⟩⟩ := h
 · omega
 · exact ⟨g, cap, rfl, hg, (hlt g rfl).2, hc⟩
def jM (w : World) (base G : Nat) (o : Value) (S : List Ar) : Prop := iZ w base o (S.map (·.1)) ∧ dA w G (jh S) ∧ ∀ b, o.ownBlock = some b → b ≠ G
theorem IU {es : List Ed} {i : Nat} {S : List Ar} {l y : Int} (hy : y = aV es (S.getD i d0).1.1 l) (h0 : 0 ≤ y) (hn : y ∉ jh S) : arr1 es i S l = S ++ [((y, l, (i : Int)), (S.getD i d0).2 ++ [l])] := by
 unfold arr1; rw [← hy, if_pos ⟨h0, hn⟩]
theorem D9 {es : List Ed} {i : Nat} {S : List Ar} {l y : Int} (hy : y = aV es (S.getD i d0).1.1 l) (h : y < 0 ∨ y ∈ jh S) : arr1 es i S l = S := by
 unfold arr1; rw [← hy, if_neg]
 rintro ⟨h0, hn⟩
 rcases h with h | h
 · omega
 · exact hn h
theorem Jv (S : List Ar) (x : Ar) {u : Int} : u ∈ jh (S ++ [x]) ↔ u ∈ jh S ∨ u = x.1.1 := by
 unfold jh; rw [List.map_append, List.mem_append]; simp
def zX (lo hi : Nat) (wl w : World) : Prop := ∀ j, lo ≤ j → j < hi → w.heap[j]? = wl.heap[j]?
def DW (w : World) (F : List Ed) (e : Ending) (w' : World) : Prop := ∃ v, e = .returned v ∧ ay w'.heap.size w' v F ∧ Below w.heap.size w w'
set_option maxRecDepth 100000 in
set_option maxHeartbeats 6400000 in
theorem Ep (w : World) (rN sN uN bm : Nat) (es : List Ed) (hfo : bJ (rN : Int) (sN : Int) es = true) (hm : kU w bm (2 * es.length) (eX es es.length)) (hbm : bm < w.heap.size) (hu : uN < sN) :
 Calls Tryz.prog 83 #[.int .i64 (rN : Int), .map (some bm), .int .i64 (uN : Int)] w (DW w ((lW (rN : Int) es (uN : Int)).map (·.1))) := by
 have hfo' := hfo; unfold bJ at hfo'; rw [Bool.and_eq_true] at hfo'; have hlim := aZ hfo'.1; have hs40 : sN ≤ 40 := by omega
 have hr3 : rN ≤ 3 := by omega
 obtain ⟨LS, hLS⟩ := ag (bH rN); have hLl : LS.length = 2 * rN := by rw [hLS]; exact iU rN
 have hLin : ∀ l ∈ LS, -3 ≤ l ∧ l ≤ 3 := fun l hl => by rw [hLS] at hl; have := oL rN l hl; omega
 have hN := ED hfo; have hN' : ∀ v l : Int, -3 ≤ l ∧ l ≤ 3 → 0 ≤ aV es v l → aV es v l < (sN : Int) := fun v l h h0 => by have := hN v l h h0; omega
 have hgood : ∀ k, lZ sN (uN : Int) (gY es LS (uN : Int) k) := tX (by omega) hLin hN'
 have hfound : lW (rN : Int) es (uN : Int) = gY es LS (uN : Int) 41 := by unfold lW; rw [hLS]; rfl
 rw [hfound]; obtain ⟨n, hn⟩ := ag (2 * es.length); obtain ⟨D, hD⟩ := ag (eX es es.length); rw [← hn, ← hD] at hm; have hlook : ∀ v l : Int, I64 v → I64 l → (has D (kS v l) = true ∧ 0 ≤ aV es v l ∧ aV es v l < (sN : Int) ∧ D.atKey (kS v l) (.lit (.int .i64 0)) = .lit (.int .i64 (aV es v l))) ∨ (has D (kS v l) = false ∧ aV es v l = -1) := fun v l hv hl => by
  rw [hD]; exact AU hfo'.1 hfo'.2 hv hl
 obtain ⟨wA, hwA⟩ := ag (w.alloc (.cells #[.int .i64 (uN : Int), .int .i64 0, .int .i64 0] 99)); have hbA : Below w.heap.size w wA := by rw [hwA]; exact (Below.refl _ _).alloc (nl _) _
 have hsA : wA.heap.size = w.heap.size + 1 := by rw [hwA]; simp
 have hownA : iZ wA w.heap.size (.slice (some ⟨w.heap.size, 0, none⟩) 1 1) [((uN : Int), 0, 0)] := by
  refine ⟨rfl, .inr ⟨w.heap.size, 1, #[.int .i64 (uN : Int), .int .i64 0, .int .i64 0], rfl, nl _, by rw [hwA]; exact heap_alloc_new _ _, nl _, by unfold maxLen; omega, rfl, rfl⟩⟩
 obtain ⟨w4, hw4⟩ := ag (wA.alloc (.cells #[.bool false, .bool false, .bool false, .bool false, .bool false, .bool false, .bool false, .bool false, .bool false, .bool false, .bool false, .bool false, .bool false, .bool false, .bool false, .bool false, .bool false, .bool false, .bool false, .bool false, .bool false, .bool false, .bool false, .bool false, .bool false, .bool false, .bool false, .bool false, .bool false, .bool false, .bool false, .bool false, .bool false, .bool false, .bool false, .bool false, .bool false, .bool false, .bool false, .bool false] 131))
 have hG4 : dA w4 wA.heap.size [] := by rw [hw4]; exact dA.none40 wA
 have hb4 : Below wA.heap.size wA w4 := by rw [hw4]; exact (Below.refl _ _).alloc (nl _) _
 have cX := hG4.cell uN (by omega)
 rw [show decide (((uN : Nat) : Int) ∈ ([] : List Int)) = false from rfl] at cX
 have fX := fun j => hG4.frozen j
 obtain ⟨w5, hw5⟩ := ag (w4.setCell ⟨wA.heap.size, uN, none⟩ (.bool true)); have hb5 : Below wA.heap.size wA w5 := by rw [hw5]; exact hb4.setCell (p := ⟨wA.heap.size, uN, none⟩) (nl _) (.bool true)
 have hG5 : dA w5 wA.heap.size (jh [(((uN : Int), 0, 0), [])]) := by rw [hw5]; exact hG4.set uN (by omega) (fun u hu => oO)
 have hF5 : jM w5 w.heap.size wA.heap.size (.slice (some ⟨w.heap.size, 0, none⟩) 1 1) (gY es LS (uN : Int) 0) :=
  ⟨iZ.other hownA (fun k hk => hb5.block k (by have h2 : w.heap.size = k := (by simpa [Value.ownBlock] using hk); omega)), hG5, fun b hb => by have h2 : w.heap.size = b := (by simpa [Value.ownBlock] using hb); omega⟩
 have hbw5 : Below w.heap.size w w5 := hbA.trans (hb5.mono (by omega))
 have hu40 : (uN : Int) < 40 := by omega
 obtain ⟨R, hR⟩ := ag (gY es LS (uN : Int) 41); rw [← hR]; replace hR := ae hR; replace hfo := ae hfo; replace hfo' := ae hfo'; replace hlim := ae hlim; replace hLS := ae hLS; replace hLl := ae hLl; replace hLin := ae hLin; replace hN := ae hN; replace hN' := ae hN'; replace hgood := ae hgood; replace hlook := ae hlook; replace hm := ae hm; replace hn := ae hn; replace hD := ae hD; replace hsA := ae hsA
 replace hF5 := ae hF5; replace hbw5 := ae hbw5; replace hw5 := ae hw5; clear hfound hbA hownA hG4 hb4 hb5 hG5; go_enter Tryz.func83, Tryz.ntmps83
 go_upto_region 2 with fail
 rw [← hwA]; replace hwA := ae hwA; go_upto_region 3 with fail
 rw [← hw4]; replace hw4 := ae hw4; go_wp2; rw [← hw5.out]; clear cX fX
 go_loopg [7, 9, 11, 12, 13] 41 (fun g o i q1 q2 q3 wr => ∃ k : Nat, k + g = 41 ∧ i = .int .i64 k ∧ Hid (jM wr w.heap.size wA.heap.size o (gY es LS (uN : Int) k)) ∧ Hid (Below w.heap.size w wr))
 case atStart => exact ⟨0, by omega, rfl, hF5, hbw5⟩
 case round =>
  clear hF5 hbw5; obtain ⟨k, hk, rfl, hF, hb⟩ := hrel; obtain ⟨S0, hS0⟩ := ag (gY es LS (uN : Int) k); have hgk := hgood.out k; rw [← hS0] at hF hgk; have hlen := hgk.length; have hpos := hgk.pos; obtain ⟨g, cap, ho, hg1, hg2, hc⟩ := iZ.form0 hF.out.1 (by rw [List.length_map]; exact hpos)
  rw [List.length_map] at ho hc; subst ho; obtain ⟨m, hm0⟩ := ag S0.length; rw [← hm0] at hF hlen hpos hc ⊢; have hbsz := hb.out.size; by_cases hlt : k < m
  · have hki : (k : Int) < (m : Int) := by omega
    have hnext : gY es LS (uN : Int) (k + 1) = LS.foldl (arr1 es k) S0 := by rw [gY, ← hS0, if_pos (by rw [← hm0]; exact hlt)]
    have hcl := IY wr rN hr3; rw [← hLS.out] at hcl; replace hS0 := ae hS0; replace hm0 := ae hm0; replace hnext := ae hnext; replace hk := ae hk; replace hgk := ae hgk; obtain ⟨M, hM⟩ := ag LS.length; go_wp2_with fail; refine hcl.mono ?_; rintro e wl ⟨vl, rfl, hrowl, hbl⟩; clear hcl; have hM6 : M ≤ 6 := by rw [hM, hLl.out]; omega
    obtain ⟨al, cl, rfl⟩ : ∃ a c, vl = Value.slice a M c := by
     obtain ⟨_, ⟨h1, h2⟩ | ⟨g, off, cap, cur, h1, _⟩⟩ := hrowl
     · exact ⟨_, _, by rw [h1, hM, h2]; rfl⟩
     · exact ⟨_, _, by rw [hM]; exact h1⟩
    have hFl : jM wl w.heap.size wA.heap.size (.slice (some ⟨g, 0, none⟩) m cap) S0 :=
     ⟨iZ.other hF.out.1 (fun k hk => hbl.block k (by cases hk; exact hg2)), hF.out.2.1.below hbl hF.out.2.1.lt, hF.out.2.2⟩
    have hFl' := ae (show jM wl w.heap.size wA.heap.size (.slice (some ⟨g, 0, none⟩) m cap) ((LS.take 0).foldl (arr1 es k) S0) ∧ (∀ b, Value.ownBlock (.slice (some ⟨g, 0, none⟩) m cap) = some b → b < wr.heap.size ∨ wl.heap.size ≤ b) from ⟨hFl, fun b hb => by cases hb; exact .inl hg2⟩)
    have hkeep0 : Hid (zX wr.heap.size wl.heap.size wl wl) := ae (fun j _ _ => rfl)
    have hbwl := ae (hb.out.trans (hbl.mono hbsz)); have hswl := ae hbl.size; obtain ⟨Bl, hBl⟩ := ag wr.heap.size; have hGB := hF.out.2.1.lt; rw [← hBl] at hFl' hkeep0 hrowl hswl hbsz hg2 hGB; replace hGB := ae hGB; replace hBl := ae hBl; replace hrowl := ae hrowl; replace hM := ae hM; clear hF hb hbl hFl; go_wp2
    go_loopg [7, 11, 12, 13, 28] M (fun g o q1 q2 q3 i wr => ∃ j : Nat, j + g = M ∧ i = .int .i64 j ∧ Hid (jM wr w.heap.size wA.heap.size o ((LS.take j).foldl (arr1 es k) S0) ∧ (∀ b, o.ownBlock = some b → b < Bl ∨ wl.heap.size ≤ b)) ∧ Hid (zX Bl wl.heap.size wl wr) ∧ Hid (Below w.heap.size w wr) ∧ Hid (wl.heap.size ≤ wr.heap.size))
    case atStart => exact ⟨0, by omega, rfl, hFl', hkeep0, hbwl, ae (nl _)⟩
    case round =>
     clear hFl' hkeep0 hbwl; obtain ⟨j, hj, rfl, hF, hkeep, hb, hsw⟩ := hrel; by_cases hlt2 : j < M
     · have hji : (j : Int) < (M : Int) := by omega
       obtain ⟨S, hS⟩ := ag ((LS.take j).foldl (arr1 es k) S0); have hgS : lZ sN (uN : Int) S := by
        rw [hS]; exact yl _ hgk.out (by have := hm0.out; omega) (fun l hl => hLin.out l (List.mem_of_mem_take hl)) hN'.out
       have hkS : m ≤ S.length := by
        rw [hS]; have : ∀ (ls : List Int) (S' : List Ar), S'.length ≤ (ls.foldl (arr1 es k) S').length := by
         intro ls
         induction ls with
         | nil => intro S'; exact nl _
         | cons l ls ih => intro S'; exact Nat.le_trans (yT es k S' l) (ih _)
        have := this (LS.take j) S0; have := hm0.out; omega
       rw [← hS] at hF; have hSl := hgS.length; obtain ⟨g', cap', ho', hg1', hg2', hc'⟩ := iZ.form0 hF.out.1.1 (by rw [List.length_map]; exact hgS.pos)
       rw [List.length_map] at ho' hc'; subst ho'; obtain ⟨p, hp0⟩ := ag S.length; have hread := readA hF.out.1.1 (by rw [List.length_map]; omega) (nl _)
       rw [← hp0] at hF hread hc' hSl hkS ⊢; obtain ⟨b', off', hab', hB', c0, c1, c2⟩ := ay.at3 hread k (by rw [List.length_map]; omega)
       simp only [Option.some.injEq, Addr.mk.injEq, and_true] at hab'; obtain ⟨rfl, rfl⟩ := hab'; rw [FH] at c0 c1 c2; simp only [Nat.zero_add] at c0; obtain ⟨x, hx⟩ := ag ((S.getD k d0).1.1); have hxb := hgS.vert k (by omega)
       rw [← hx] at c0 hxb; have hrl := (hrowl.out.keep hkeep.out).read; obtain ⟨bl, ol, rfl, hbll, cl0⟩ := hrl.at2 j (by have := hM.out; omega)
       obtain ⟨l, hl⟩ := ag (LS.getD j 0); have hlin : -3 ≤ l ∧ l ≤ 3 := hLin.out l (by
        have hjl : j < LS.length := by have := hM.out; omega
        rw [hl, gD, gE hjl]; exact List.getElem_mem hjl)
       rw [← hl] at cl0; have hSn : (LS.take (j + 1)).foldl (arr1 es k) S0 = arr1 es k S l := by
        have hjl : j < LS.length := by have := hM.out; omega
        rw [List.take_add_one, gE hjl, Option.toList_some, List.foldl_append, ← hS, hl, gD, gE hjl]; rfl
       have hky := o8 x l (by unfold I64; omega) (by unfold I64; omega)
       have hlk := hlook.out x l (by unfold I64; omega) (by unfold I64; omega)
       have hmD := ae (hm.out.below hb.out hbm); obtain ⟨y, hy⟩ := ag (aV es x l); rw [← hy] at hlk; rw [hx] at hy; replace hS := ae hS; replace hgS := ae hgS; replace hp0 := ae hp0; replace hx := ae hx; replace hl := ae hl; replace hj := ae hj; replace hread := ae hread; replace hky := ae hky; replace hrl := ae hrl; have hkp : k < p := by omega
       have hkpi : (k : Int) < (p : Int) := by omega
       clear c1 c2
       rcases hlk with ⟨hh, hy0, hys, hat⟩ | ⟨hh, hyn⟩
       · obtain ⟨yN, rfl⟩ : ∃ z : Nat, y = (z : Int) := ⟨y.toNat, by omega⟩
         have hyi : (yN : Int) < 40 := by omega
         have hy40 : yN < 40 := by omega
         have cY := hF.out.1.2.1.cell yN hy40; by_cases hin : (yN : Int) ∈ jh S
         · have d1 : decide ((yN : Int) ∈ jh S) = true := decide_eq_true hin
           rw [d1] at cY; have hno := D9 hy (.inr hin); have hF' := ae (show jM wr w.heap.size wA.heap.size (.slice (some ⟨g', 0, none⟩) p cap') ((LS.take (j + 1)).foldl (arr1 es k) S0) ∧ (∀ b, Value.ownBlock (.slice (some ⟨g', 0, none⟩) p cap') = some b → b < Bl ∨ wl.heap.size ≤ b) from by rw [hSn, hno]; exact hF.out)
           replace hy := ae hy; replace hSn := ae hSn; replace hat := ae hat; replace hno := ae hno; replace hin := ae hin; go_wp2_with (at_lookup; go_must (refine wpList_lookup_own_ok_int _ rfl _ _ 83 rfl 130 3 .i64 rF Tryz.underlying83 Tryz.underlying3 (qQ _) bm _ D rfl hmD.out _ _ rfl hky.out ?_; intro c hc2 hwc; obtain rfl : c = (yN : Int) := by (rw [hat.out] at hc2; simpa using hc2.symm)))
           try clear hc2 hwc
           go_wp2; go_roundg (M - (j + 1))
           case rel => exact ⟨j + 1, by have := hj.out; omega, by go_num, hF', hkeep, hb, hsw⟩
           case measure => have := hj.out; omega
         · have d1 : decide ((yN : Int) ∈ jh S) = false := decide_eq_false hin
           rw [d1] at cY; have hyes := IU hy (by omega) hin
           have fY := fun q => hF.out.1.2.1.frozen q
           obtain ⟨w7, hw7⟩ := ag (wr.setCell ⟨wA.heap.size, yN, none⟩ (.bool true)); have hne := hF.out.1.2.2 g' rfl; have hGlt := hF.out.1.2.1.lt; have hG7 : dA w7 wA.heap.size ((yN : Int) :: jh S) := by rw [hw7]; exact hF.out.1.2.1.set yN hy40 (fun u hu => oO)
           have hown7 : iZ w7 w.heap.size (.slice (some ⟨g', 0, none⟩) p cap') (S.map (·.1)) := iZ.other hF.out.1.1 (fun q hq => by rw [hw7]; exact heap_setCell_other _ _ _ _ (by cases hq; exact hne))
           have hs7 : w7.heap.size = wr.heap.size := by rw [hw7]; exact BB _ _ _
           have hb7 : Below w.heap.size w w7 := by rw [hw7]; exact hb.out.setCell (p := ⟨wA.heap.size, yN, none⟩) (by have := hsA.out; show w.heap.size ≤ wA.heap.size; omega) _
           have hsw' := hsw.out; have hkeep7 : zX Bl wl.heap.size wl w7 := fun q h1 h2 => by
            rw [hw7, heap_setCell_other _ _ _ _ (by show q ≠ wA.heap.size; have := hGB.out; omega)]; exact hkeep.out q h1 h2
           have hbs : ∀ b, Value.ownBlock (.slice (some ⟨g', 0, none⟩) p cap') = some b → b < Bl ∨ wl.heap.size ≤ b := hF.out.2; replace hw7 := ae hw7; replace hy := ae hy; replace hSn := ae hSn; replace hat := ae hat; replace hyes := ae hyes; replace hin := ae hin; replace hG7 := ae hG7; replace hown7 := ae hown7; replace hb7 := ae hb7; replace hkeep7 := ae hkeep7; replace hs7 := ae hs7; replace hbs := ae hbs
           go_upto_region 12 with (at_lookup; go_must (refine wpList_lookup_own_ok_int _ rfl _ _ 83 rfl 130 3 .i64 rF Tryz.underlying83 Tryz.underlying3 (qQ _) bm _ D rfl hmD.out _ _ rfl hky.out ?_; intro c hc2 hwc; obtain rfl : c = (yN : Int) := by (rw [hat.out] at hc2; simpa using hc2.symm)))
           go_upto_region 13 with fail
           rw [← hw7.out]; clear cY fY; go_wp2_with (at_builtin; go_must (refine xZ rfl _ _ rfl w.heap.size (.slice (some ⟨g', 0, none⟩) p cap') (S.map (·.1)) _ _ _ rfl rfl hown7.out (by rw [List.length_map, ← hp0.out]; omega) (by have := hb7.out.size; omega) ?_))
           intro v' w9 hown9 hg9 hloc; have hs9 : w7.heap.size + 1 ≤ w9.heap.size := by have := hg9.size; simpa using this
           have hne9 : ∀ b, v'.ownBlock = some b → b = g' ∨ b = w7.heap.size + 1 := fun b hb => by
            rcases hloc with h | h
            · rw [h] at hb; exact .inl (by simpa [Value.ownBlock] using hb.symm)
            · rw [h] at hb; exact .inr (by simpa using hb.symm)
           have hold9 : ∀ q, q < w7.heap.size → q ≠ g' → w9.heap[q]? = w7.heap[q]? := fun q hq hqg => by
            rw [hg9.block q (by simp; omega) (by simp [Value.ownBlock]; exact hqg), heap_alloc_old _ _ hq]
           have hGlt7 : wA.heap.size < w7.heap.size := hG7.out.lt; have hF9 : jM w9 w.heap.size wA.heap.size v' ((LS.take (j + 1)).foldl (arr1 es k) S0) := by
            rw [hSn.out, hyes.out]; refine ⟨by rw [List.map_append]; exact hown9, ?_, fun b hb => ?_⟩
            · obtain ⟨cur, q1, q2, q3⟩ := hG7.out
              have hG9 : dA w9 wA.heap.size ((yN : Int) :: jh S) := ⟨cur, by rw [hold9 _ hGlt7 (Ne.symm hne)]; exact q1, q2, q3⟩
              exact hG9.same (fun u hu => by rw [Jv, List.mem_cons]; exact or_comm)
            · rcases hne9 b hb with h | h
              · rw [h]; exact hne
              · omega
           have hF' := ae (show jM w9 w.heap.size wA.heap.size v' ((LS.take (j + 1)).foldl (arr1 es k) S0) ∧ (∀ b, v'.ownBlock = some b → b < Bl ∨ wl.heap.size ≤ b) from ⟨hF9, fun b hb => by
            rcases hne9 b hb with h | h
            · rw [h]; exact hbs.out g' rfl
            · right; have := hs7.out; have := hsw.out; omega⟩)
           have hgne : g' < Bl ∨ wl.heap.size ≤ g' := hbs.out g' rfl; have hkeep9 := ae (show zX Bl wl.heap.size wl w9 from fun q h1 h2 => by
            rw [hold9 q (by have := hs7.out; have := hsw.out; omega) (by omega)]; exact hkeep7.out q h1 h2)
           have hb9 := ae (show Below w.heap.size w w9 from (hb7.out.alloc hb7.out.size _).grown hg9 (by have := hb7.out.size; simp; omega) (fun q hq => by have h2 : g' = q := (by simpa [Value.ownBlock] using hq); omega))
           have hsw9 := ae (show wl.heap.size ≤ w9.heap.size by have := hs7.out; have := hsw.out; omega)
           clear hown9 hg9 hloc hne9 hold9 hF9; go_wp2; go_roundg (M - (j + 1))
           case rel => exact ⟨j + 1, by have := hj.out; omega, by go_num, hF', hkeep9, hb9, hsw9⟩
           case measure => have := hj.out; omega
       · have hno := D9 hy (.inl (by omega))
         have hF' := ae (show jM wr w.heap.size wA.heap.size (.slice (some ⟨g', 0, none⟩) p cap') ((LS.take (j + 1)).foldl (arr1 es k) S0) ∧ (∀ b, Value.ownBlock (.slice (some ⟨g', 0, none⟩) p cap') = some b → b < Bl ∨ wl.heap.size ≤ b) from by rw [hSn, hno]; exact hF.out)
         replace hy := ae hy; replace hSn := ae hSn; replace hno := ae hno; replace hyn := ae hyn; go_wp2_with (at_lookup; go_must (refine wpList_lookup_own_ok_int _ rfl _ _ 83 rfl 130 3 .i64 rF Tryz.underlying83 Tryz.underlying3 (qQ _) bm _ D rfl hmD.out _ _ rfl hky.out ?_; intro c hc2 hwc))
         try clear hc2 hwc
         go_wp2; go_roundg (M - (j + 1))
         case rel => exact ⟨j + 1, by have := hj.out; omega, by go_num, hF', hkeep, hb, hsw⟩
         case measure => have := hj.out; omega
     · obtain rfl : j = M := by omega
       have hji : ¬ (j : Int) < (j : Int) := by omega
       have hfull : LS.take j = LS := List.take_of_length_le (by have := hM.out; omega)
       have hF9 := ae (show jM wr w.heap.size wA.heap.size u7 (gY es LS (uN : Int) (k + 1)) by rw [hnext.out, ← hfull]; exact hF.out.1)
       replace hfull := ae hfull; replace hj := ae hj; go_wp2; go_roundg (41 - (k + 1))
       case rel => exact ⟨k + 1, by have := hk.out; omega, by go_num, hF9, hb⟩
       case measure => have := hk.out; omega
  · have hki : ¬ (k : Int) < (m : Int) := by omega
    have hRk : R = S0 := by
     rw [hR.out, hS0]; exact BR (by rw [← hS0, ← hm0]; exact hlt) (by omega)
    have hr : DW w (R.map (·.1)) (.returned (.slice (some ⟨g, 0, none⟩) m cap)) wr := by
     refine ⟨_, rfl, ?_, hb.out⟩; rw [hRk]; exact readA hF.out.1 (by rw [List.length_map, ← hm0]; omega) (nl _)
    replace hr := ae hr; replace hRk := ae hRk; replace hS0 := ae hS0; replace hm0 := ae hm0; replace hk := ae hk; replace hgk := ae hgk; go_wp2; go_ret; exact hr.out
end Go.Proofs.YtgnomlcjikfdhaaGreat
