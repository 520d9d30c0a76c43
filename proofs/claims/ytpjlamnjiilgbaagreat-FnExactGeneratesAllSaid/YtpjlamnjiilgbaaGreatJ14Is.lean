import Derived.Deep.LoopGhost
import Derived.Deep.Cut
import Derived.Deep.RegionHeld3
import Derived.Laws.AppendOwn
import Derived.Laws.AppendOwnNone
import Derived.Maps.AppendAt
import Derived.Test.YtpjlamnjiilgbaaGreatJ3Is
import Derived.Test.YtpjlamnjiilgbaaGreatJ4Is
import Derived.Test.YtpjlamnjiilgbaaGreatJ2Is
import Derived.Test.YtpjlamnjiilgbaaGreatJ9Is
import Derived.Test.YtpjlamnjiilgbaaGreatJ13Is
import Derived.Test.YtpjlamnjiilgbaaGreatJ1Is
namespace Go.Proofs.YtpjlamnjiilgbaaGreat
open Go.RowKit
set_option linter.unusedVariables false
set_option linter.unusedSimpArgs false
def plN (s : Nat) (zs : List Int) : Nat → List Int
 | 0 => List.replicate s 0
 | k + 1 => (plN s zs k).set (zs.getD k 0).toNat ((k : Int) + 1)
theorem plN_length (s : Nat) (zs : List Int) : ∀ k, (plN s zs k).length = s := by
 intro k
 induction k with
 | zero => simp [plN]
 | succ k ih => simp [plN, ih]
theorem plN_in (s : Nat) (zs : List Int) : ∀ k, ∀ i, 0 ≤ (plN s zs k).getD i 0 ∧ (plN s zs k).getD i 0 ≤ k := by
 intro k
 induction k with
 | zero =>
  intro i
  unfold plN
  rw [List.getD_eq_getElem?_getD, List.getElem?_replicate]
  split <;> simp
 | succ k ih =>
  intro i
  have := ih i
  unfold plN
  rw [List.getD_eq_getElem?_getD] at this ⊢
  rw [List.getElem?_set]
  split
  · split
    · simp; omega
    · simp; omega
  · omega
def plB (s : Nat) (zs : List Int) (k : Nat) : Bool := decide (0 ≤ zs.getD k 0 ∧ zs.getD k 0 < (s : Int)) && decide ((plN s zs k).getD (zs.getD k 0).toNat 0 = 0)
def plAll (s : Nat) (zs : List Int) : Nat → Bool
 | 0 => true
 | k + 1 => plAll s zs k && plB s zs k
theorem plAll_iff (s : Nat) (zs : List Int) : ∀ n, plAll s zs n = true ↔ ∀ i, i < n → plB s zs i = true := by
 intro n
 induction n with
 | zero => simp [plAll]
 | succ n ih =>
  unfold plAll
  rw [Bool.and_eq_true, ih]
  constructor
  · rintro ⟨h1, h2⟩ i hi
    by_cases e : i = n
    · subst e; exact h2
    · exact h1 i (by omega)
  · intro h
    exact ⟨fun i hi => h i (by omega), h n (by omega)⟩
theorem plAll_not {s : Nat} {zs : List Int} {i n : Nat} (hi : i < n) (h : plB s zs i = false) : plAll s zs n = false := by
 cases e : plAll s zs n with
 | false => rfl
 | true => rw [(plAll_iff s zs n).1 e i hi] at h; cases h
def okN (r s : Int) (es : List Ed) (zs : List Int) : Bool := isGr r s es && decide (zs.length ≠ 0 ∧ (zs.length : Int) ≤ s) && plAll s.toNat zs zs.length
def inP (pl : List Int) (e : Ed) : Bool := decide (0 < pl.getD e.1.toNat 0 ∧ 0 < pl.getD e.2.2.toNat 0)
def numE (pl : List Int) (e : Ed) : Ed := (pl.getD e.1.toNat 0 - 1, e.2.1, pl.getD e.2.2.toNat 0 - 1)
def rnN (pl : List Int) (es : List Ed) : Nat → List Ed
 | 0 => []
 | k + 1 => if inP pl (es.getD k e0) = true then putE (numE pl (es.getD k e0)) (rnN pl es k) else rnN pl es k
theorem rnN_length (pl : List Int) (es : List Ed) : ∀ k, (rnN pl es k).length ≤ k := by
 intro k
 induction k with
 | zero => simp [rnN]
 | succ k ih =>
  unfold rnN
  split
  · have := putE_length (numE pl (es.getD k e0)) (rnN pl es k); omega
  · omega
def rnS (r s : Int) (es : List Ed) (zs : List Int) : Int := if okN r s es zs = true then (zs.length : Int) else s
def rnE (r s : Int) (es : List Ed) (zs : List Int) : List Ed := if okN r s es zs = true then rnN (plN s.toNat zs zs.length) es es.length else es
theorem rnE_length (r s : Int) (es : List Ed) (zs : List Int) : (rnE r s es zs).length ≤ es.length := by
 unfold rnE
 split
 · exact rnN_length _ _ _
 · exact Nat.le_refl _
def leafB (r s : Int) (es : List Ed) (v : Int) : Bool := decide (degE v es < 2) || !decide (v ∈ reachG r s es 0)
def lfN (r s : Int) (es : List Ed) (v : Int) : Nat → Int
 | 0 => -1
 | g + 1 => if leafB r s es v = true then v else lfN r s es (v + 1) g
def lf (r s : Int) (es : List Ed) : Int := lfN r s es 1 (s - 1).toNat
theorem lfN_or (r s : Int) (es : List Ed) : ∀ g v, lfN r s es v g = -1 ∨ (v ≤ lfN r s es v g ∧ lfN r s es v g < v + g) := by
 intro g
 induction g with
 | zero => intro v; exact .inl rfl
 | succ g ih =>
  intro v
  unfold lfN
  split
  · right; omega
  · rcases ih (v + 1) with h | h
    · exact .inl h
    · right; omega
theorem lf_or (r s : Int) (es : List Ed) : lf r s es = -1 ∨ (1 ≤ lf r s es ∧ lf r s es < s) := by
 rcases lfN_or r s es (s - 1).toNat 1 with h | h
 · exact .inl h
 · right; unfold lf; omega
structure TrSt where
 s : Int
 es : List Ed
 l : List Int
def upN (n : Nat) : List Int := (List.range n).map Int.ofNat
def othN (v : Int) : Nat → List Int
 | 0 => []
 | k + 1 => if (k : Int) = v then othN v k else othN v k ++ [(k : Int)]
def resN (v : Int) (l : List Int) : Nat → List Int
 | 0 => []
 | k + 1 => if (k : Int) = v then resN v l k else resN v l k ++ [l.getD k 0]
theorem othN_length (v : Int) : ∀ k : Nat, (othN v k).length ≤ k := by
 intro k
 induction k with
 | zero => simp [othN]
 | succ k ih =>
  unfold othN
  split
  · omega
  · rw [List.length_append, List.length_singleton]; omega
theorem resN_length (v : Int) (l : List Int) : ∀ k : Nat, (resN v l k).length = (othN v k).length := by
 intro k
 induction k with
 | zero => simp [othN, resN]
 | succ k ih =>
  unfold othN resN
  by_cases e : (k : Int) = v
  · rw [if_pos e, if_pos e, ih]
  · rw [if_neg e, if_neg e, List.length_append, List.length_append, ih]; rfl
def trS1 (r : Int) (x : TrSt) : TrSt :=
 if lf r x.s x.es < 0 then x else ⟨rnS r x.s x.es (othN (lf r x.s x.es) x.s.toNat), rnE r x.s x.es (othN (lf r x.s x.es) x.s.toNat), resN (lf r x.s x.es) x.l x.s.toNat⟩
def trN (r s : Int) (es : List Ed) : Nat → TrSt
 | 0 => ⟨s, es, upN s.toNat⟩
 | i + 1 => trS1 r (trN r s es i)
theorem trN_stop (r s : Int) (es : List Ed) {i : Nat} (h : lf r (trN r s es i).s (trN r s es i).es < 0) : ∀ j, trN r s es (i + j) = trN r s es i := by
 intro j
 induction j with
 | zero => rfl
 | succ j ih =>
  show trS1 r (trN r s es (i + j)) = _
  rw [ih]
  unfold trS1
  rw [if_pos h]
theorem trN_len (r s : Int) (es : List Ed) : ∀ i, (trN r s es i).es.length ≤ es.length := by
 intro i
 induction i with
 | zero => simp [trN]
 | succ i ih =>
  unfold trN trS1
  split
  · exact ih
  · exact Nat.le_trans (rnE_length _ _ _ _) ih
theorem othN_ne {v : Int} {k : Nat} (h : 0 ≤ v ∧ v < (k : Int)) : (othN v k).length + 1 = k := by
 induction k with
 | zero => omega
 | succ k ih =>
  unfold othN
  by_cases e : (k : Int) = v
  · rw [if_pos e]
    have : ∀ m : Nat, (m : Int) ≤ v → (othN v m).length = m := by
     intro m
     induction m with
     | zero => intro _; rfl
     | succ m im =>
      intro hm
      unfold othN
      rw [if_neg (by omega), List.length_append, im (by omega)]
      rfl
    rw [this k (by omega)]
  · rw [if_neg e, List.length_append, List.length_singleton, ih (by omega)]
def tmS (r s : Int) (es : List Ed) : Int := if isGr r s es = true then (trN r s es 40).s else s
def tmE (r s : Int) (es : List Ed) : List Ed := if isGr r s es = true then (trN r s es 40).es else es
def tmL (r s : Int) (es : List Ed) : List Int := if isGr r s es = true then (trN r s es 40).l else []
def coS (es : List Ed) (u : Int) (out : List Int) (l : Int) : List Int := if 0 ≤ nxV es u l ∧ nxV es u l ∉ out then out ++ [nxV es u l] else out
def coR (es : List Ed) (u : Int) (ls : List Int) (out : List Int) (k : Nat) : List Int := (ls.take k).foldl (coS es u) out
theorem coR_next {es : List Ed} {u : Int} {ls out : List Int} {k : Nat} (h : k < ls.length) : coR es u ls out (k + 1) = coS es u (coR es u ls out k) (ls.getD k 0) := by
 unfold coR
 rw [List.take_add_one, List.getElem?_eq_getElem h, List.getD_eq_getElem?_getD, List.getElem?_eq_getElem h, List.foldl_append]
 rfl
def coN (es : List Ed) (ls : List Int) : Nat → List Int
 | 0 => [0]
 | i + 1 => if i < (coN es ls i).length then coR es ((coN es ls i).getD i 0) ls (coN es ls i) ls.length else coN es ls i
theorem coN_stop {es : List Ed} {ls : List Int} {i : Nat} (h : (coN es ls i).length ≤ i) : ∀ j, coN es ls (i + j) = coN es ls i := by
 intro j
 induction j with
 | zero => rfl
 | succ j ih =>
  show (if i + j < (coN es ls (i + j)).length then coR es ((coN es ls (i + j)).getD (i + j) 0) ls (coN es ls (i + j)) ls.length else coN es ls (i + j)) = _
  rw [ih, if_neg (by omega)]
def CoIn (s : Nat) (out : List Int) : Prop := out.Nodup ∧ ∀ y ∈ out, 0 ≤ y ∧ y < (s : Int)
theorem CoIn.len : ∀ {s : Nat} {out : List Int}, CoIn s out → out.length ≤ s := by
 intro s
 induction s with
 | zero =>
  intro out h
  cases out with
  | nil => simp
  | cons y ys => have := h.2 y List.mem_cons_self; omega
 | succ s ih =>
  intro out h
  by_cases hm : (s : Int) ∈ out
  · have h2 : CoIn s (out.erase (s : Int)) := by
     refine ⟨h.1.erase _, fun y hy => ?_⟩
     have h3 := (h.1.mem_erase_iff).1 hy
     have h4 := h.2 y h3.2
     have h5 := h3.1
     omega
    have h6 := ih h2
    rw [List.length_erase_of_mem hm] at h6
    omega
  · have h2 : CoIn s out := ⟨h.1, fun y hy => by
     have h4 := h.2 y hy
     have h5 : y ≠ (s : Int) := fun e => hm (e ▸ hy)
     omega⟩
    have := ih h2
    omega
theorem nxV_in {s : Nat} {es : List Ed} (hE : EndsIn s es) {v l : Int} (h : 0 ≤ nxV es v l) : nxV es v l < (s : Int) := by
 unfold nxV at h ⊢
 cases e : stepsE v l es with
 | nil => rw [e] at h; simp at h
 | cons y ys =>
  simp only [List.headD_cons]
  have hy : y ∈ stepsE v l es := by rw [e]; exact List.mem_cons_self
  obtain ⟨x, hx, hl⟩ := mem_stepsE.1 hy
  have hx2 := hE x hx
  unfold Leads at hl
  omega
theorem CoIn.step {s : Nat} {es : List Ed} (hE : EndsIn s es) {u l : Int} {out : List Int} (h : CoIn s out) : CoIn s (coS es u out l) := by
 unfold coS
 split
 case isFalse => exact h
 case isTrue hc =>
  refine ⟨?_, ?_⟩
  · rw [List.nodup_append]
    exact ⟨h.1, by simp, fun a ha b hb => by rw [List.mem_singleton] at hb; subst hb; intro e; subst e; exact hc.2 ha⟩
  · intro y hy
    rcases List.mem_append.1 hy with hy | hy
    · exact h.2 y hy
    · rw [List.mem_singleton] at hy
      subst hy
      exact ⟨hc.1, nxV_in hE hc.1⟩
theorem CoIn.row {s : Nat} {es : List Ed} (hE : EndsIn s es) {u : Int} (ls : List Int) {out : List Int} (h : CoIn s out) (k : Nat) : CoIn s (coR es u ls out k) := by
 unfold coR
 induction ls.take k generalizing out with
 | nil => exact h
 | cons l t ih => exact ih (h.step hE)
theorem CoIn.all {s : Nat} {es : List Ed} (hE : EndsIn s es) (hs : 0 < s) (ls : List Int) : ∀ i, CoIn s (coN es ls i) := by
 intro i
 induction i with
 | zero => exact ⟨by simp [coN], fun y hy => by simp [coN] at hy; omega⟩
 | succ i ih =>
  unfold coN
  split
  · exact ih.row hE ls _
  · exact ih
def coL (r s : Int) (es : List Ed) (ls : List Int) : List Int := if isFo r s es = true then coN es ls 40 else []
theorem ownsRow_keep {w w' : World} {base P cap n : Nat} {T : TypeId} {xs : List Value} {sz : Nat} (h : w.ownsRow base T sz (.slice (some ⟨P, 0, none⟩) n cap) n xs) (hk : w'.heap[P]? = w.heap[P]?) : w'.ownsRow base T sz (.slice (some ⟨P, 0, none⟩) n cap) n xs := by
 obtain ⟨q1, q2 | ⟨g, cap', cur, e, hg, hh, hr⟩⟩ := h
 · exact ⟨q1, .inl q2⟩
 · cases e
   exact ⟨q1, .inr ⟨_, _, cur, rfl, hg, hk.trans hh, hr⟩⟩
theorem plN_succ (s : Nat) (zs : List Int) (k : Nat) : plN s zs (k + 1) = (plN s zs k).set (zs.getD k 0).toNat ((k : Int) + 1) := rfl
theorem plN_cell {w : World} {base P sN k zN : Nat} {zs : List Int} (h : w.ownsRow base 3 1 (.slice (some ⟨P, 0, none⟩) sN sN) sN ((plN sN zs k).map iv)) (hz : zN < sN) : w.cell? ⟨P, zN, none⟩ = some (.int .i64 ((plN sN zs k).getD zN 0)) := by
 have hl := plN_length sN zs k
 rw [h.cellAt zN (by omega), List.getElem?_map, List.getD_eq_getElem?_getD, List.getElem?_eq_getElem (by omega)]
 rfl
theorem place_of {r s : Int} {es : List Ed} (h : isGr r s es = true) {j : Nat} (hj : j < es.length) : (0 ≤ (es.getD j e0).1 ∧ (es.getD j e0).1 < s) ∧ (0 ≤ (es.getD j e0).2.2 ∧ (es.getD j e0).2.2 < s) := by
 have hE := endsIn_of h (es.getD j e0) (by rw [List.getD_eq_getElem?_getD, List.getElem?_eq_getElem hj]; exact List.getElem_mem hj)
 have := isGr_iff.1 h
 omega
set_option maxRecDepth 100000 in
set_option maxHeartbeats 6400000 in
theorem specRenum (w : World) (r s : Int) (v vo : Value) (es : List Ed) (zs : List Int) (h : ReadE w.heap.size w v es) (hs : -9223372036854775808 ≤ s ∧ s ≤ 9223372036854775807) (hl : es.length ≤ 10000000) (ho : ReadI w.heap.size w vo zs) (hlo : zs.length ≤ 10000000) :
 Calls Tryz.prog 118 #[.agg #[.int .i64 r, .int .i64 s, v], vo] w (LwGraphBool w r (rnS r s es zs) (rnE r s es zs) (okN r s es zs)) := by
 obtain ⟨a, cap, rfl, hnc⟩ := h.form
 have ho' := ho
 obtain ⟨hol, oa, oc, rfl, _, _⟩ := ho'
 obtain ⟨n, hn⟩ := exq es.length
 obtain ⟨m, hm⟩ := exq zs.length
 rw [← hn] at h
 rw [← hn] at hl hnc ⊢
 rw [← hm] at hlo ho hol ⊢
 obtain ⟨w1, hw1⟩ := exq (((w.alloc (.cells #[.int .i64 r, .int .i64 s, .slice a n cap] 26)).alloc (.cells #[.int .i64 0, .int .i64 0, .slice none 0 0] 26)).alloc (.cells #[.int .i64 r, .int .i64 m, .slice none 0 0] 26))
 have hb1 : Below w.heap.size w w1 := by rw [hw1]; exact (((Below.refl _ _).alloc (Nat.le_refl _) _).alloc (by simp) _).alloc (by simp; omega) _
 have hs1 : w1.heap.size = w.heap.size + 1 + 1 + 1 := by rw [hw1]; simp
 have hX0 : w1.heap[w.heap.size + 1 + 1]? = some (.cells #[.int .i64 r, .int .i64 m, .slice none 0 0] 26 (0, 0)) := by
  have := heap_alloc_new ((w.alloc (.cells #[.int .i64 r, .int .i64 s, .slice a n cap] 26)).alloc (.cells #[.int .i64 0, .int .i64 0, .slice none 0 0] 26)) (.cells #[.int .i64 r, .int .i64 m, .slice none 0 0] 26)
  rw [← hw1] at this; simpa using this
 have hR : w1.heap[w.heap.size + 1]? = some (.cells #[.int .i64 0, .int .i64 0, .slice none 0 0] 26 (0, 0)) := by
  have := heap_box (w.alloc (.cells #[.int .i64 r, .int .i64 s, .slice a n cap] 26)) (.cells #[.int .i64 0, .int .i64 0, .slice none 0 0] 26) (.cells #[.int .i64 r, .int .i64 m, .slice none 0 0] 26)
  rw [← hw1] at this; simpa using this
 have hg : w1.heap[w.heap.size]? = some (.cells #[.int .i64 r, .int .i64 s, .slice a n cap] 26 (0, 0)) := by
  rw [hw1, ((Below.refl w.heap.size.succ (((w.alloc (.cells #[.int .i64 r, .int .i64 s, .slice a n cap] 26))).alloc (.cells #[.int .i64 0, .int .i64 0, .slice none 0 0] 26))).alloc (by simp) (.cells #[.int .i64 r, .int .i64 m, .slice none 0 0] 26)).block w.heap.size (by omega)]
  exact heap_box w (.cells #[.int .i64 r, .int .i64 s, .slice a n cap] 26) (.cells #[.int .i64 0, .int .i64 0, .slice none 0 0] 26)
 have g0 : w1.cell? ⟨w.heap.size, 0, none⟩ = some (.int .i64 r) := by simpa using cell_of_heap hg 0
 have g1 : w1.cell? ⟨w.heap.size, 1, none⟩ = some (.int .i64 s) := by simpa using cell_of_heap hg 1
 have g2 : w1.cell? ⟨w.heap.size, 2, none⟩ = some (.slice a n cap) := by simpa using cell_of_heap hg 2
 have hww := hw1.symm
 have his := specIsGr w1 r s (.slice a n cap) es ((h.below hb1).mono hb1.size) hs (by omega)
 obtain ⟨B, hB⟩ := exq (isGr r s es)
 rw [← hB] at his
 obtain ⟨O, hO⟩ := exq (okN r s es zs)
 obtain ⟨ZS, hZS⟩ := exq (rnS r s es zs)
 obtain ⟨ZE, hZE⟩ := exq (rnE r s es zs)
 rw [← hO, ← hZS, ← hZE]
 have hOe : O = (B && decide (m ≠ 0 ∧ (m : Int) ≤ s) && plAll s.toNat zs m) := by rw [hO, hB, hm]; rfl
 have hno : O = false → ZS = s ∧ ZE = es := fun hf => by rw [hZS, hZE]; unfold rnS rnE; rw [← hO, hf]; exact ⟨rfl, rfl⟩
 have hyes : O = true → ZS = (m : Int) ∧ ZE = rnN (plN s.toNat zs m) es n := fun hf => by rw [hZS, hZE]; unfold rnS rnE; rw [← hO, hf, hn, hm]; exact ⟨rfl, rfl⟩
 have hRk : ∀ W, Below w1.heap.size w1 W → W.heap[w.heap.size + 1]? = some (.cells #[.int .i64 0, .int .i64 0, .slice none 0 0] 26 (0, 0)) := fun W hW => by rw [hW.block _ (by omega)]; exact hR
 have hXk : ∀ W, Below w1.heap.size w1 W → W.heap[w.heap.size + 1 + 1]? = some (.cells #[.int .i64 r, .int .i64 m, .slice none 0 0] 26 (0, 0)) := fun W hW => by rw [hW.block _ (by omega)]; exact hX0
 have hend : ∀ (W : World) (x0 x1 x2 : Value), Below w.heap.size w W → Below w.heap.size w (((W.setCell ⟨w.heap.size + 1, 0, none⟩ x0).setCell ⟨w.heap.size + 1, 1, none⟩ x1).setCell ⟨w.heap.size + 1, 2, none⟩ x2) := fun W x0 x1 x2 hW => below_set3 hW (by omega)
 have hcopy := fun (W : World) (hr : ReadE W.heap.size W (.slice a es.length cap) es) => specCopy W r s _ es hr (by omega)
 rw [← hn] at hcopy
 replace hcopy := hidI hcopy
 replace hOe := hidI hOe
 replace hno := hidI hno
 replace hyes := hidI hyes
 replace hRk := hidI hRk
 replace hXk := hidI hXk
 replace hend := hidI hend
 replace hww := hidI hww
 replace hn := hidI hn
 replace hm := hidI hm
 replace h := hidI h
 replace ho := hidI ho
 replace hg := hidI hg
 replace hX0 := hidI hX0
 replace hR := hidI hR
 replace hs1 := hidI hs1
 replace hO := hidI hO
 replace hZS := hidI hZS
 replace hZE := hidI hZE
 replace hw1 := hidI hw1
 go_enter Tryz.func118, Tryz.ntmps118
 go_upto_region 2 with fail
 rw [hww.out]
 go_wp2_with fail
 refine his.mono ?_
 rintro e w2 ⟨rfl, hb2⟩
 clear his
 have hlt1 : w.heap.size + 1 + 1 < w1.heap.size := by have := hs1.out; omega
 replace g0 := below_cell g0 hb2 (by omega)
 replace g1 := below_cell g1 hb2 (by omega)
 replace g2 := below_cell g2 hb2 (by omega)
 have hb12 := hidI (hb1.trans (hb2.mono hb1.size))
 have hb12' := hidI hb2
 have hsz2 := hb2.size
 clear hb2
 cases B with
 | false =>
  have hOf : O = false := hOe.out
  replace hB := hidI hB
  replace hOf := hidI hOf
  obtain ⟨hZS0, hZE0⟩ := hno.out hOf.out
  have hcc := hcopy.out w2 ((h.out.below hb12.out).mono hb12.out.size)
  replace hZS0 := hidI hZS0
  replace hZE0 := hidI hZE0
  go_wp2_with fail
  refine hcc.mono ?_
  rintro e w5 ⟨ca, cc, rfl, hrow, hb5⟩
  rw [← hn.out]
  rw [← hn.out] at hrow
  clear hcc
  have hb15 : Below w.heap.size w w5 := hb12.out.trans (hb5.mono hb12.out.size)
  have hR5 := hRk.out w5 (hb12'.out.trans (hb5.mono hb12'.out.size))
  obtain ⟨y0, y1, y2⟩ := cell3 hR5
  have f2 := fun j => frozen_of_row w5 (w.heap.size + 1) j _ _ hR5
  simp at y0 y1 y2
  have hfin : LwGraphBool w r s es false (.returned (.tuple #[.agg #[.int .i64 r, .int .i64 s, .slice ca n cc], .bool false])) (((w5.setCell ⟨w.heap.size + 1, 0, none⟩ (.int .i64 r)).setCell ⟨w.heap.size + 1, 1, none⟩ (.int .i64 s)).setCell ⟨w.heap.size + 1, 2, none⟩ (.slice ca n cc)) := by
   have hrw := hrow
   rw [hn.out] at hrw
   rw [hn.out]
   have hRl : w.heap.size + 1 < w2.heap.size := by have := hs1.out; have := hb12'.out.size; omega
   exact ⟨ca, cc, rfl, (RowS.set3_ hrw (.inl hRl)).wide hb12.out.size (by rw [size_set3]; exact Nat.le_refl _), hend.out _ _ _ _ hb15⟩
  have hset := set3 hR5 (.int .i64 r) (.int .i64 s) (.slice ca n cc)
  replace hfin := hidI hfin
  replace hset := hidI hset
  replace hR5 := hidI hR5
  replace hrow := hidI hrow
  replace hb5 := hidI hb5
  replace hb15 := hidI hb15
  clear g0 g1 g2
  go_wp2
  (try simp only [Exit.inBlock, Exit.then])
  refine ret_cell2 (x := .bool false) rfl rfl rfl hset.out Tryz.underlying26 sizeGraph ?_
  rw [hOf.out, hZS0.out, hZE0.out]
  exact hfin.out
 | true =>
  have hgr := hidI hB.symm
  replace hB := hidI hB
  by_cases hm0 : m = 0
  case pos =>
   have hOf : O = false := by rw [hOe.out, hm0]; rfl
   have hmz : ((m : Int) == 0) = true := by rw [beq_iff_eq]; omega
   replace hm0 := hidI hm0
   replace hOf := hidI hOf
   obtain ⟨hZS0, hZE0⟩ := hno.out hOf.out
   have hcc := hcopy.out w2 ((h.out.below hb12.out).mono hb12.out.size)
   replace hZS0 := hidI hZS0
   replace hZE0 := hidI hZE0
   go_wp2_with fail
   refine hcc.mono ?_
   rintro e w5 ⟨ca, cc, rfl, hrow, hb5⟩
   rw [← hn.out]
   rw [← hn.out] at hrow
   clear hcc
   have hb15 : Below w.heap.size w w5 := hb12.out.trans (hb5.mono hb12.out.size)
   have hR5 := hRk.out w5 (hb12'.out.trans (hb5.mono hb12'.out.size))
   obtain ⟨y0, y1, y2⟩ := cell3 hR5
   have f2 := fun j => frozen_of_row w5 (w.heap.size + 1) j _ _ hR5
   simp at y0 y1 y2
   have hfin : LwGraphBool w r s es false (.returned (.tuple #[.agg #[.int .i64 r, .int .i64 s, .slice ca n cc], .bool false])) (((w5.setCell ⟨w.heap.size + 1, 0, none⟩ (.int .i64 r)).setCell ⟨w.heap.size + 1, 1, none⟩ (.int .i64 s)).setCell ⟨w.heap.size + 1, 2, none⟩ (.slice ca n cc)) := by
    have hrw := hrow
    rw [hn.out] at hrw
    rw [hn.out]
    have hRl : w.heap.size + 1 < w2.heap.size := by have := hs1.out; have := hb12'.out.size; omega
    exact ⟨ca, cc, rfl, (RowS.set3_ hrw (.inl hRl)).wide hb12.out.size (by rw [size_set3]; exact Nat.le_refl _), hend.out _ _ _ _ hb15⟩
   have hset := set3 hR5 (.int .i64 r) (.int .i64 s) (.slice ca n cc)
   replace hfin := hidI hfin
   replace hset := hidI hset
   replace hR5 := hidI hR5
   replace hrow := hidI hrow
   replace hb5 := hidI hb5
   replace hb15 := hidI hb15
   clear g0 g1 g2
   go_wp2
   (try simp only [Exit.inBlock, Exit.then])
   refine ret_cell2 (x := .bool false) rfl rfl rfl hset.out Tryz.underlying26 sizeGraph ?_
   rw [hOf.out, hZS0.out, hZE0.out]
   exact hfin.out
  have hmz : ((m : Int) == 0) = false := by rw [beq_eq_false_iff_ne]; omega
  by_cases hms : s < (m : Int)
  case pos =>
   have hOf : O = false := by rw [hOe.out, decide_eq_false (show ¬ (m ≠ 0 ∧ (m : Int) ≤ s) by omega)]; rfl
   replace hm0 := hidI hm0
   replace hOf := hidI hOf
   obtain ⟨hZS0, hZE0⟩ := hno.out hOf.out
   have hcc := hcopy.out w2 ((h.out.below hb12.out).mono hb12.out.size)
   replace hZS0 := hidI hZS0
   replace hZE0 := hidI hZE0
   go_wp2_with fail
   refine hcc.mono ?_
   rintro e w5 ⟨ca, cc, rfl, hrow, hb5⟩
   rw [← hn.out]
   rw [← hn.out] at hrow
   clear hcc
   have hb15 : Below w.heap.size w w5 := hb12.out.trans (hb5.mono hb12.out.size)
   have hR5 := hRk.out w5 (hb12'.out.trans (hb5.mono hb12'.out.size))
   obtain ⟨y0, y1, y2⟩ := cell3 hR5
   have f2 := fun j => frozen_of_row w5 (w.heap.size + 1) j _ _ hR5
   simp at y0 y1 y2
   have hfin : LwGraphBool w r s es false (.returned (.tuple #[.agg #[.int .i64 r, .int .i64 s, .slice ca n cc], .bool false])) (((w5.setCell ⟨w.heap.size + 1, 0, none⟩ (.int .i64 r)).setCell ⟨w.heap.size + 1, 1, none⟩ (.int .i64 s)).setCell ⟨w.heap.size + 1, 2, none⟩ (.slice ca n cc)) := by
    have hrw := hrow
    rw [hn.out] at hrw
    rw [hn.out]
    have hRl : w.heap.size + 1 < w2.heap.size := by have := hs1.out; have := hb12'.out.size; omega
    exact ⟨ca, cc, rfl, (RowS.set3_ hrw (.inl hRl)).wide hb12.out.size (by rw [size_set3]; exact Nat.le_refl _), hend.out _ _ _ _ hb15⟩
   have hset := set3 hR5 (.int .i64 r) (.int .i64 s) (.slice ca n cc)
   replace hfin := hidI hfin
   replace hset := hidI hset
   replace hR5 := hidI hR5
   replace hrow := hidI hrow
   replace hb5 := hidI hb5
   replace hb15 := hidI hb15
   clear g0 g1 g2
   go_wp2
   (try simp only [Exit.inBlock, Exit.then])
   refine ret_cell2 (x := .bool false) rfl rfl rfl hset.out Tryz.underlying26 sizeGraph ?_
   rw [hOf.out, hZS0.out, hZE0.out]
   exact hfin.out
  have hlim := isGr_iff.1 hgr.out
  have hsl : 1 ≤ s ∧ s ≤ 40 ∧ es.length ≤ 120 := ⟨hlim.2.2.2.1, hlim.2.2.2.2.1, hlim.2.2.2.2.2⟩
  have hn120 : n ≤ 120 := by have := hn.out; omega
  have hOp : Hid (O = plAll s.toNat zs m) := hidI (by rw [hOe.out, decide_eq_true (show m ≠ 0 ∧ (m : Int) ≤ s by omega)]; rfl)
  replace hlim := hidI hlim
  replace hm0 := hidI hm0
  obtain ⟨sN, rfl⟩ : ∃ sN : Nat, s = (sN : Int) := ⟨s.toNat, by omega⟩
  rw [Int.toNat_natCast] at hOp hyes
  have hsub : IntKind.i64.wrap ((sN : Int) - 1) = (sN : Int) - 1 := IntWalk.i64_in _ (by omega)
  obtain ⟨i0, hj, hz0, hz1, hz2⟩ := info_parts infoInt
  obtain ⟨P, hP⟩ := exq w2.heap.size
  have hXP : w.heap.size + 1 + 1 < P := by have := hs1.out; omega
  go_wp2_with (at_make; go_must (refine wpList_make_full _ rfl _ _ 46 rfl w2.heap.size 3 i0 (.int .i64 0) 1 Tryz.underlying46 hj hz0 hz1 .i64 .i64 _ _ sN rfl rfl rfl rfl ?c1 ?c2 ?c3 ?_))
  case c1 => rw [hz2]; omega
  case c2 => unfold maxLen; omega
  case c3 => exact Nat.le_refl _
  intro w3 hown hgw
  rw [made_ints] at hown
  have hb3 : Below w2.heap.size w2 w3 := (Below.refl w2.heap.size w2).grown hgw (Nat.le_refl _) (by intro k hk; cases hk)
  have hlt3 : P < w3.heap.size := by rw [hP]; exact (World.ownsRow.lt hown _ rfl).2
  clear hgw hj hz0 hz1 hz2
  rw [← hP] at hown hb3 ⊢
  have hst0 : Hid (w3.ownsRow P 3 1 (.slice (some ⟨P, 0, none⟩) sN sN) sN ((plN sN zs 0).map iv)) := hidI hown
  replace hb3 := hidI hb3
  replace hP := hidI hP
  clear hown
  go_wp2
  go_loopg [8] m (fun g i wr => ∃ k : Nat, k + g = m ∧ i = .int .i64 k ∧ Hid (wr.ownsRow P 3 1 (.slice (some ⟨P, 0, none⟩) sN sN) sN ((plN sN zs k).map iv)) ∧ Hid (∀ j, j < k → plB sN zs j = true) ∧ Hid (Below P w2 wr) ∧ P < wr.heap.size)
  case atStart => exact ⟨0, by omega, rfl, hst0, hidI (fun j h => by omega), hb3, hlt3⟩
  case round =>
   clear hst0 hb3 hlt3
   obtain ⟨k, hk, rfl, hst, hall, hb, hlw⟩ := hrel
   have hbr := hidI (hb12.out.trans (hb.out.mono (by have := hP.out; have := hb12.out.size; omega)))
   have hbr1 := hidI (hb12'.out.trans (hb.out.mono (by have := hP.out; omega)))
   replace g0 := below_cell g0 hb.out (by omega)
   replace g1 := below_cell g1 hb.out (by omega)
   replace g2 := below_cell g2 hb.out (by omega)
   by_cases hlt : k < m
   · have hki : (k : Int) < (m : Int) := by omega
     obtain ⟨ob, ooff, hab, hBo, co⟩ := (ho.out.below hbr.out).at2 k (by have := hm.out; omega)
     subst hab
     obtain ⟨z, hz⟩ := exq (zs.getD k 0)
     rw [← hz] at co
     have hk1 : k < 40 := by omega
     obtain ⟨wd, hwd⟩ := exq wr.drew
     have hbd : Below wr.heap.size wr wd := by rw [hwd]; exact below_dn (Below.refl _ _) 1
     have hsw := hb.out.size
     have hsw2 := hP.out
     have hob : ob < wr.heap.size := by have := hbr.out.size; omega
     have x0 := below_cell co hbd hob
     have x1 := below_cell g1 hbd (by omega)
     replace g0 := below_cell g0 hbd (by omega)
     replace g2 := below_cell g2 hbd (by omega)
     have hstd : Hid (wd.ownsRow P 3 1 (.slice (some ⟨P, 0, none⟩) sN sN) sN ((plN sN zs k).map iv)) := by rw [hwd]; exact hst
     have hbrd := hidI (hbr.out.trans (hbd.mono hbr.out.size))
     have hbr1d := hidI (hbr1.out.trans (hbd.mono hbr1.out.size))
     have hbdk := hidI (hb.out.trans (hbd.mono (by omega)))
     have hltd : P < wd.heap.size := by have := hbd.size; omega
     replace hz := hidI hz
     replace hwd := hidI hwd
     replace hbd := hidI hbd
     replace hk := hidI hk
     replace hsw2 := hidI hsw2
     have hpB : plB sN zs k = (decide (0 ≤ z ∧ z < (sN : Int)) && decide ((plN sN zs k).getD z.toNat 0 = 0)) := by rw [hz.out]; rfl
     replace hpB := hidI hpB
     clear hst
     by_cases hr : 0 ≤ z ∧ z < (sN : Int)
     case neg =>
      have hOf : O = false := by
       rw [hOp.out]
       refine plAll_not (i := k) hlt ?_
       rw [hpB.out, decide_eq_false hr]; rfl
      have hin := in_any wd z 0 ((sN : Int) - 1)
      rw [decide_eq_false (show ¬ (0 ≤ z ∧ z ≤ (sN : Int) - 1) by omega)] at hin
      replace hr := hidI hr
      go_wp2
      refine hideQ (fun _ _ d _ _ h => by cases d <;> exact h) (fun Q' hnorm hpan => ?_)
      refine wp_region_held_drew (S := (fun W0 => W0.cell? ⟨ob, ooff + k, none⟩ = some (.int .i64 z) ∧ W0.cell? ⟨w.heap.size, 1, none⟩ = some (.int .i64 (sN : Int)))) (by kernel_rfl) ?_ (fun hHeld => ?_)
      · try dsimp only
        first | ((repeat' apply And.intro) <;> assumption) | (rw [← hwd.out]; ((repeat' apply And.intro) <;> assumption))
      rw [← hwd.out] at hHeld ⊢
      refine tk 0 42 ?_
      refine tk 1 43 ?_
      refine tk 2 44 ?_
      refine tk 3 45 ?_
      refine tk 4 46 ?_
      refine tk 5 47 ?_
      refine tk 6 48 ?_
      refine rd 7 (fun K hK => ?_)
      rw [if_pos (by rfl)]
      go_simp
      try rw [hsub]
      refine hin.mono ?_
      rintro e w4 ⟨rfl, rfl⟩
      refine hK.out _ _ ?_ (fun hHeld => ?_)
      · try dsimp only
        first | ((repeat' apply And.intro) <;> assumption) | (rw [← hwd.out]; ((repeat' apply And.intro) <;> assumption))
      clear hK
      try simp only [Act.put, lyA, lyB, lyC]
      refine tk 8 50 ?_
      refine tk 9 51 ?_
      refine tn 10 52 ?_
      refine tn 11 53 ?_
      refine tn 12 54 ?_
      refine tn 13 55 ?_
      refine tn 14 56 ?_
      refine tn 15 57 ?_
      refine tn 16 58 ?_
      refine tn 17 59 ?_
      refine tk 18 60 ?_
      refine wpAnyH_done (by kernel_rfl) ?_ _
      refine hnorm _ _ ?_
      clear hnorm hpan
      repeat clear hHeld
      try simp only [Exit.then]
      replace g1 := x1
      clear hin co x0
      replace hOf := hidI hOf
      obtain ⟨hZS0, hZE0⟩ := hno.out hOf.out
      have hcc := hcopy.out wd ((h.out.below hbrd.out).mono hbrd.out.size)
      replace hZS0 := hidI hZS0
      replace hZE0 := hidI hZE0
      go_wp2_with fail
      refine hcc.mono ?_
      rintro e w5 ⟨ca, cc, rfl, hrow, hb5⟩
      rw [← hn.out]
      rw [← hn.out] at hrow
      clear hcc
      have hb15 : Below w.heap.size w w5 := hbrd.out.trans (hb5.mono hbrd.out.size)
      have hR5 := hRk.out w5 (hbr1d.out.trans (hb5.mono hbr1d.out.size))
      obtain ⟨y0, y1, y2⟩ := cell3 hR5
      have f2 := fun j => frozen_of_row w5 (w.heap.size + 1) j _ _ hR5
      simp at y0 y1 y2
      have hfin : LwGraphBool w r (sN : Int) es false (.returned (.tuple #[.agg #[.int .i64 r, .int .i64 (sN : Int), .slice ca n cc], .bool false])) (((w5.setCell ⟨w.heap.size + 1, 0, none⟩ (.int .i64 r)).setCell ⟨w.heap.size + 1, 1, none⟩ (.int .i64 (sN : Int))).setCell ⟨w.heap.size + 1, 2, none⟩ (.slice ca n cc)) := by
       have hrw := hrow
       rw [hn.out] at hrw
       rw [hn.out]
       have hRl : w.heap.size + 1 < wd.heap.size := by have := hs1.out; have := hbr1d.out.size; omega
       exact ⟨ca, cc, rfl, (RowS.set3_ hrw (.inl hRl)).wide hbrd.out.size (by rw [size_set3]; exact Nat.le_refl _), hend.out _ _ _ _ hb15⟩
      have hset := set3 hR5 (.int .i64 r) (.int .i64 (sN : Int)) (.slice ca n cc)
      replace hfin := hidI hfin
      replace hset := hidI hset
      replace hR5 := hidI hR5
      replace hrow := hidI hrow
      replace hb5 := hidI hb5
      replace hb15 := hidI hb15
      clear g0 g1 g2
      go_wp2
      (try simp only [Exit.inBlock, Exit.then])
      refine ret_cell2 (x := .bool false) rfl rfl rfl hset.out Tryz.underlying26 sizeGraph ?_
      rw [hOf.out, hZS0.out, hZE0.out]
      exact hfin.out
     obtain ⟨zN, rfl⟩ : ∃ zN : Nat, z = (zN : Int) := ⟨z.toNat, by omega⟩
     have hzs : zN < sN := by omega
     have hzi : (zN : Int) < (sN : Int) := by omega
     have x2 := plN_cell hstd.out hzs
     obtain ⟨q, hq⟩ := exq ((plN sN zs k).getD zN 0)
     rw [← hq] at x2
     rw [Int.toNat_natCast, ← hq, decide_eq_true hr] at hpB
     have hin := in_any wd (zN : Int) 0 ((sN : Int) - 1)
     rw [decide_eq_true (show 0 ≤ (zN : Int) ∧ (zN : Int) ≤ (sN : Int) - 1 by omega)] at hin
     replace hr := hidI hr
     replace hq := hidI hq
     go_wp2
     refine hideQ (fun _ _ d _ _ h => by cases d <;> exact h) (fun Q' hnorm hpan => ?_)
     refine wp_region_held_drew (S := (fun W0 => W0.cell? ⟨ob, ooff + k, none⟩ = some (.int .i64 (zN : Int)) ∧ W0.cell? ⟨w.heap.size, 1, none⟩ = some (.int .i64 (sN : Int)) ∧ W0.cell? ⟨P, zN, none⟩ = some (.int .i64 q))) (by kernel_rfl) ?_ (fun hHeld => ?_)
     · try dsimp only
       first | ((repeat' apply And.intro) <;> assumption) | (rw [← hwd.out]; ((repeat' apply And.intro) <;> assumption))
     rw [← hwd.out] at hHeld ⊢
     refine tk 0 42 ?_
     refine tk 1 43 ?_
     refine tk 2 44 ?_
     refine tk 3 45 ?_
     refine tk 4 46 ?_
     refine tk 5 47 ?_
     refine tk 6 48 ?_
     refine rd 7 (fun K hK => ?_)
     rw [if_pos (by rfl)]
     go_simp
     try rw [hsub]
     refine hin.mono ?_
     rintro e w4 ⟨rfl, rfl⟩
     refine hK.out _ _ ?_ (fun hHeld => ?_)
     · try dsimp only
       first | ((repeat' apply And.intro) <;> assumption) | (rw [← hwd.out]; ((repeat' apply And.intro) <;> assumption))
     clear hK
     try simp only [Act.put, lyA, lyB, lyC]
     refine tk 8 50 ?_
     refine tk 9 51 ?_
     refine tg 10 52 ?_
     refine tg 11 53 ?_
     refine tg 12 54 ?_
     refine tg 13 55 ?_
     refine tg 14 56 ?_
     refine tg 15 57 ?_
     refine tg 16 58 ?_
     refine tg 17 59 ?_
     refine tk 18 60 ?_
     refine wpAnyH_done (by kernel_rfl) ?_ _
     refine hnorm _ _ ?_
     clear hnorm hpan
     repeat clear hHeld
     try simp only [Exit.then]
     replace g1 := x1
     clear hin co
     by_cases hq0 : q = 0
     case neg =>
      have hOf : O = false := by
       rw [hOp.out]
       refine plAll_not (i := k) hlt ?_
       rw [hpB.out, decide_eq_false hq0]; rfl
      have hqz : (q == 0) = false := by rw [beq_eq_false_iff_ne]; exact hq0
      clear x0 x2
      replace hOf := hidI hOf
      obtain ⟨hZS0, hZE0⟩ := hno.out hOf.out
      have hcc := hcopy.out wd ((h.out.below hbrd.out).mono hbrd.out.size)
      replace hZS0 := hidI hZS0
      replace hZE0 := hidI hZE0
      go_wp2_with fail
      refine hcc.mono ?_
      rintro e w5 ⟨ca, cc, rfl, hrow, hb5⟩
      rw [← hn.out]
      rw [← hn.out] at hrow
      clear hcc
      have hb15 : Below w.heap.size w w5 := hbrd.out.trans (hb5.mono hbrd.out.size)
      have hR5 := hRk.out w5 (hbr1d.out.trans (hb5.mono hbr1d.out.size))
      obtain ⟨y0, y1, y2⟩ := cell3 hR5
      have f2 := fun j => frozen_of_row w5 (w.heap.size + 1) j _ _ hR5
      simp at y0 y1 y2
      have hfin : LwGraphBool w r (sN : Int) es false (.returned (.tuple #[.agg #[.int .i64 r, .int .i64 (sN : Int), .slice ca n cc], .bool false])) (((w5.setCell ⟨w.heap.size + 1, 0, none⟩ (.int .i64 r)).setCell ⟨w.heap.size + 1, 1, none⟩ (.int .i64 (sN : Int))).setCell ⟨w.heap.size + 1, 2, none⟩ (.slice ca n cc)) := by
       have hrw := hrow
       rw [hn.out] at hrw
       rw [hn.out]
       have hRl : w.heap.size + 1 < wd.heap.size := by have := hs1.out; have := hbr1d.out.size; omega
       exact ⟨ca, cc, rfl, (RowS.set3_ hrw (.inl hRl)).wide hbrd.out.size (by rw [size_set3]; exact Nat.le_refl _), hend.out _ _ _ _ hb15⟩
      have hset := set3 hR5 (.int .i64 r) (.int .i64 (sN : Int)) (.slice ca n cc)
      replace hfin := hidI hfin
      replace hset := hidI hset
      replace hR5 := hidI hR5
      replace hrow := hidI hrow
      replace hb5 := hidI hb5
      replace hb15 := hidI hb15
      clear g0 g1 g2
      go_wp2
      (try simp only [Exit.inBlock, Exit.then])
      refine ret_cell2 (x := .bool false) rfl rfl rfl hset.out Tryz.underlying26 sizeGraph ?_
      rw [hOf.out, hZS0.out, hZE0.out]
      exact hfin.out
     have hqz : (q == 0) = true := by rw [beq_iff_eq]; exact hq0
     have hnx : Hid (∀ j, j < k + 1 → plB sN zs j = true) := hidI fun j hj => by
      by_cases e : j = k
      · subst e; rw [hpB.out, decide_eq_true hq0]; rfl
      · exact hall.out j (by omega)
     have hf0 := hstd.out.frozenAt zN
     have hs5 := hidI (show (wd.setCell ⟨P, zN, none⟩ (.int .i64 ((k : Int) + 1))).ownsRow P 3 1 (.slice (some ⟨P, 0, none⟩) sN sN) sN ((plN sN zs (k + 1)).map iv) by
      have := (hstd.out.stored zN (.int .i64 ((k : Int) + 1))).1
      have hl := plN_length sN zs k
      rw [plN_succ, ← hz.out, Int.toNat_natCast, List.map_set]
      exact this)
     have hb5 := hidI (hbdk.out.setCell (p := ⟨P, zN, none⟩) (Nat.le_refl _) (.int .i64 ((k : Int) + 1)))
     have hlw5 : P < (wd.setCell ⟨P, zN, none⟩ (.int .i64 ((k : Int) + 1))).heap.size := by
      have : (wd.setCell ⟨P, zN, none⟩ (.int .i64 ((k : Int) + 1))).heap.size = wd.heap.size := by simp [World.setCell]
      rw [this]; exact hltd
     replace hlw5 := hidI hlw5
     replace hq0 := hidI hq0
     clear hb
     go_wp2
     go_roundg (m - (k + 1))
     case rel => exact ⟨k + 1, by have := hk.out; omega, by go_num, hs5, hnx, hb5, hlw5.out⟩
     case measure => have := hk.out; omega
   · obtain rfl : k = m := by omega
     have hki : ¬ (k : Int) < (k : Int) := by omega
     have hOt : O = true := by rw [hOp.out]; exact (plAll_iff sN zs k).2 hall.out
     subst hOt
     obtain ⟨hZS1, hZE1⟩ := hyes.out rfl
     obtain ⟨pl, hpl⟩ := exq (plN sN zs k)
     rw [← hpl] at hZE1
     have hpin := plN_in sN zs k
     rw [← hpl] at hpin
     have hk40 : k ≤ 40 := by omega
     obtain ⟨wA, hwA⟩ := exq wr
     subst hwA
     have hXA := hXk.out wA hbr1.out
     have hst1 : Hid (∃ v', MSt wA (w.heap.size + 1 + 1) (w.heap.size + 1 + 1) r (k : Int) v' (rnN pl es 0)) := hidI ⟨.slice none 0 0, hXA, (w.heap.size + 1 + 1), (w.heap.size + 1 + 1), ⟨rfl, Nat.zero_le _, .inl ⟨rfl, rfl⟩⟩, Nat.le_refl _, by omega, .inl (Nat.le_refl _)⟩
     have hkA : Hid (Below (w.heap.size + 1 + 1) wA wA) := hidI (Below.refl _ _)
     have hrdA := hidI (h.out.below hbr.out)
     replace hXA := hidI hXA
     replace hZS1 := hidI hZS1
     replace hZE1 := hidI hZE1
     replace hpin := hidI hpin
     replace hpl := hidI hpl
     replace hk := hidI hk
     have hlA := hlw
     clear hall g0 g1
     go_wp2
     go_loopg [9] n (fun g i wr => ∃ j : Nat, j + g = n ∧ i = .int .i64 j ∧ Hid (∃ v', MSt wr (w.heap.size + 1 + 1) (w.heap.size + 1 + 1) r (k : Int) v' (rnN pl es j)) ∧ Hid (Below (w.heap.size + 1 + 1) wA wr) ∧ Hid (wr.heap[P]? = wA.heap[P]?) ∧ P < wr.heap.size)
     case atStart => exact ⟨0, by omega, rfl, hst1, hkA, hidI (by first | rfl | trivial), hlA⟩
     case round =>
      clear hst1 hkA
      obtain ⟨j, hj, rfl, hst2, hkb, hPk, hlP⟩ := hrel
      obtain ⟨v6, hP6⟩ := hst2.out
      obtain ⟨E, hE⟩ := exq (rnN pl es j)
      rw [← hE] at hP6
      have hEl : E.length ≤ 1000000 := by rw [hE]; have := rnN_length pl es j; omega
      obtain ⟨av, cv, rfl⟩ := hP6.form
      have p2 := below_cell g2 hkb.out (by omega)
      have hrow := ownsRow_keep hst.out hPk.out
      rw [← hpl.out] at hrow
      by_cases hlt2 : j < n
      · have hji : (j : Int) < (n : Int) := by omega
        have hjl : j < es.length := by have := hn.out; omega
        obtain ⟨b, off, hab, hBb, x0, x1, x2⟩ := ReadE.at3 (hrdA.out.below (hkb.out.mono (by omega))) j hjl
        subst hab
        have hee := place_of hgr.out hjl
        obtain ⟨f, hf⟩ := exq ((es.getD j e0).1)
        obtain ⟨l, hll⟩ := exq ((es.getD j e0).2.1)
        obtain ⟨t, ht⟩ := exq ((es.getD j e0).2.2)
        rw [← hf] at x0
        rw [← hll] at x1
        rw [← ht] at x2
        rw [← hf, ← ht] at hee
        obtain ⟨fN, hfN⟩ : ∃ fN : Nat, f = (fN : Int) := ⟨f.toNat, by omega⟩
        subst hfN
        obtain ⟨tN, htN⟩ : ∃ tN : Nat, t = (tN : Int) := ⟨t.toNat, by omega⟩
        subst htN
        have hfs : fN < sN := by omega
        have hts : tN < sN := by omega
        have hfi : (fN : Int) < (sN : Int) := by omega
        have hti : (tN : Int) < (sN : Int) := by omega
        rw [hpl.out] at hrow
        have c3 := plN_cell hrow hfs
        have c4 := plN_cell hrow hts
        rw [← hpl.out] at c3 c4
        obtain ⟨A, hA⟩ := exq (pl.getD fN 0)
        obtain ⟨Q, hQ⟩ := exq (pl.getD tN 0)
        rw [← hA] at c3
        rw [← hQ] at c4
        have hAb : 0 ≤ A ∧ A ≤ 40 := by have := hpin.out fN; rw [← hA] at this; omega
        have hQb : 0 ≤ Q ∧ Q ≤ 40 := by have := hpin.out tN; rw [← hQ] at this; omega
        have hnum : Hid (rnN pl es (j + 1) = if decide (0 < A ∧ 0 < Q) = true then putE (A - 1, l, Q - 1) E else E) := hidI (by
         rw [rnN, inP, numE, ← hf, ← ht, ← hll, Int.toNat_natCast, Int.toNat_natCast, ← hA, ← hQ, ← hE])
        obtain ⟨w4, hw4⟩ := exq (wr.alloc (.cells #[.int .i64 fN, .int .i64 l, .int .i64 tN] 72))
        have hb4 : Below wr.heap.size wr w4 := by rw [hw4]; exact (Below.refl _ _).alloc (Nat.le_refl _) _
        have hs4 : w4.heap.size = wr.heap.size + 1 := by rw [hw4]; simp
        obtain ⟨e0_, e1_, e2_⟩ := box3 hw4
        obtain ⟨Y, hY⟩ := exq wr.heap.size
        have hXr : (w.heap.size + 1 + 1) < wr.heap.size := by omega
        have hS4 : MSt w4 (w.heap.size + 1 + 1) (w.heap.size + 1 + 1) r (k : Int) (.slice av E.length cv) E := hP6.below hXr hb4
        have hk4 : Below (w.heap.size + 1 + 1) wA w4 := hkb.out.trans (hb4.mono (by omega))
        have hP4 : w4.heap[P]? = wA.heap[P]? := (hb4.block P hlP).trans hPk.out
        have hl4 : P < w4.heap.size := by omega
        have d3 := below_cell c3 hb4 hlP
        have d4 := below_cell c4 hb4 hlP
        have hYP : P < Y := by omega
        rw [← hY] at e0_ e1_ e2_
        replace hf := hidI hf
        replace hll := hidI hll
        replace ht := hidI ht
        replace hE := hidI hE
        replace hj := hidI hj
        replace hP6 := hidI hP6
        replace hA := hidI hA
        replace hQ := hidI hQ
        replace hs4 := hidI hs4
        replace hrow := hidI hrow
        replace hee := hidI hee
        clear hst2
        go_upto_region 15 with fail
        rw [← hw4]
        replace hw4 := hidI hw4
        rw [← hY]
        clear x0 x1 x2 p2 c3 c4
        by_cases hA0 : 0 < A
        case neg =>
         have hnx : rnN pl es (j + 1) = E := by rw [hnum.out, decide_eq_false (show ¬ (0 < A ∧ 0 < Q) by omega)]; rfl
         have hst7 : Hid (∃ v', MSt w4 (w.heap.size + 1 + 1) (w.heap.size + 1 + 1) r (k : Int) v' (rnN pl es (j + 1))) := hidI ⟨_, by rw [hnx]; exact hS4⟩
         replace hnx := hidI hnx
         replace hS4 := hidI hS4
         replace hk4 := hidI hk4
         replace hP4 := hidI hP4
         replace hb4 := hidI hb4
         replace hY := hidI hY
         go_wp2
         go_roundg (n - (j + 1))
         case rel => exact ⟨j + 1, by have := hj.out; omega, by go_num, hst7, hk4, hP4, hl4⟩
         case measure => have := hj.out; omega
        by_cases hQ0 : 0 < Q
        case neg =>
         have hnx : rnN pl es (j + 1) = E := by rw [hnum.out, decide_eq_false (show ¬ (0 < A ∧ 0 < Q) by omega)]; rfl
         have hst7 : Hid (∃ v', MSt w4 (w.heap.size + 1 + 1) (w.heap.size + 1 + 1) r (k : Int) v' (rnN pl es (j + 1))) := hidI ⟨_, by rw [hnx]; exact hS4⟩
         replace hnx := hidI hnx
         replace hS4 := hidI hS4
         replace hk4 := hidI hk4
         replace hP4 := hidI hP4
         replace hb4 := hidI hb4
         replace hY := hidI hY
         go_wp2
         go_roundg (n - (j + 1))
         case rel => exact ⟨j + 1, by have := hj.out; omega, by go_num, hst7, hk4, hP4, hl4⟩
         case measure => have := hj.out; omega
        have hsA : IntKind.i64.wrap (A - 1) = A - 1 := IntWalk.i64_in _ (by omega)
        have hsQ : IntKind.i64.wrap (Q - 1) = Q - 1 := IntWalk.i64_in _ (by omega)
        have hnx : Hid (rnN pl es (j + 1) = putE (A - 1, l, Q - 1) E) := hidI (by rw [hnum.out, decide_eq_true (show 0 < A ∧ 0 < Q by omega)]; rfl)
        obtain ⟨v0, hv0⟩ := exq w4.drew
        have hS0 : MSt v0 (w.heap.size + 1 + 1) (w.heap.size + 1 + 1) r (k : Int) (.slice av E.length cv) E := by rw [hv0]; exact hS4.drew
        have hB0 : Below (w.heap.size + 1 + 1) wA v0 := by rw [hv0]; exact below_dn hk4 1
        have hP0 : v0.heap[P]? = wA.heap[P]? := by rw [hv0]; exact hP4
        have hZ0 : Y < v0.heap.size := by rw [hv0]; show Y < w4.heap.size; have := hs4.out; omega
        have hl0 : P < v0.heap.size := by omega
        have y0 : v0.cell? ⟨Y, 0, none⟩ = some (.int .i64 fN) := by rw [hv0]; exact e0_
        have y1 : v0.cell? ⟨Y, 1, none⟩ = some (.int .i64 l) := by rw [hv0]; exact e1_
        have y2 : v0.cell? ⟨Y, 2, none⟩ = some (.int .i64 tN) := by rw [hv0]; exact e2_
        have y3 : v0.cell? ⟨P, fN, none⟩ = some (.int .i64 A) := by rw [hv0]; exact d3
        have y4 : v0.cell? ⟨P, tN, none⟩ = some (.int .i64 Q) := by rw [hv0]; exact d4
        replace hv0 := hidI hv0
        replace hS4 := hidI hS4
        replace hk4 := hidI hk4
        replace hP4 := hidI hP4
        replace hb4 := hidI hb4
        replace hY := hidI hY
        go_upto_region 16 with fail
        clear e0_ e1_ e2_ d3 d4
        refine hideQ (fun _ _ d _ _ h => by cases d <;> exact h) (fun Q' hnorm hpan => ?_)
        refine wp_region_held_drew (S := (fun W0 => W0.cell? ⟨Y, 0, none⟩ = some (.int .i64 fN) ∧ W0.cell? ⟨Y, 1, none⟩ = some (.int .i64 l) ∧ W0.cell? ⟨Y, 2, none⟩ = some (.int .i64 tN) ∧ W0.cell? ⟨P, fN, none⟩ = some (.int .i64 A) ∧ W0.cell? ⟨P, tN, none⟩ = some (.int .i64 Q))) (by kernel_rfl) ?_ (fun hHeld => ?_)
        · try dsimp only
          rw [← hv0.out]
          ((repeat' apply And.intro) <;> assumption)
        rw [← hv0.out] at hHeld ⊢
        refine tk 0 97 ?_
        refine tk 2 99 ?_
        refine tk 3 100 ?_
        refine tk 4 101 ?_
        refine tk 5 102 ?_
        refine tk 6 103 ?_
        refine tk 7 104 ?_
        refine tk 8 105 ?_
        refine tk 9 106 ?_
        refine tk 10 107 ?_
        refine tk 11 108 ?_
        refine tk 12 109 ?_
        refine tk 13 110 ?_
        refine tk 14 111 ?_
        refine tk 15 112 ?_
        refine tk 16 113 ?_
        refine rd 1 (fun K hK => ?_)
        rw [if_pos (by rfl)]
        have cX := cell_of_heap hS0.1 2
        simp at cX
        go_simp
        clear cX
        refine hK.out _ _ ?_ (fun hHeld => ?_)
        · try dsimp only
          ((repeat' apply And.intro) <;> assumption)
        clear hK
        try simp only [Act.put, lyA, lyB, lyC]
        have hcall := specPut v0 (.slice av E.length cv) E (A - 1) l (Q - 1) hS0.read (by omega)
        obtain ⟨E2, hE2⟩ := exq (putE (A - 1, l, Q - 1) E)
        rw [← hE2] at hcall
        have hnx2 := hidI (hnx.out.trans hE2.symm)
        replace hE2 := hidI hE2
        refine rd 17 (fun K hK => ?_)
        rw [if_pos (by rfl)]
        go_simp
        try simp only [hsA, hsQ]
        go_at_call 120
        (with_reducible refine hcall.mono ?_)
        rintro e w6 ⟨a2, c2, rfl, hrow6, hb6⟩
        have hs6 := hb6.size
        replace y0 := below_cell y0 hb6 (by omega)
        replace y1 := below_cell y1 hb6 (by omega)
        replace y2 := below_cell y2 hb6 (by omega)
        replace y3 := below_cell y3 hb6 (by omega)
        replace y4 := below_cell y4 hb6 (by omega)
        have hX6 : w6.heap[(w.heap.size + 1 + 1)]? = _ := (hb6.block (w.heap.size + 1 + 1) (by omega)).trans hS0.1
        have c6 := cell_of_heap hX6 2
        have f6 := fun j => frozen_of_row w6 (w.heap.size + 1 + 1) j _ _ hX6
        simp at c6
        have hS7 := hS0.put (by omega) hb6 (by omega) hrow6
        have hb7 : Below (w.heap.size + 1 + 1) wA (w6.setCell ⟨(w.heap.size + 1 + 1), 2, none⟩ (.slice a2 E2.length c2)) := (hB0.trans (hb6.mono (by omega))).setCell (p := ⟨(w.heap.size + 1 + 1), 2, none⟩) (Nat.le_refl _) _
        have hP7 : (w6.setCell ⟨(w.heap.size + 1 + 1), 2, none⟩ (.slice a2 E2.length c2)).heap[P]? = wA.heap[P]? := (Below.heap_setCell _ _ _ _ (show P ≠ (w.heap.size + 1 + 1) by omega)).trans ((hb6.block P hl0).trans hP0)
        have hl7 : P < (w6.setCell ⟨(w.heap.size + 1 + 1), 2, none⟩ (.slice a2 E2.length c2)).heap.size := by simp [World.setCell]; omega
        have z0 : (w6.setCell ⟨(w.heap.size + 1 + 1), 2, none⟩ (.slice a2 E2.length c2)).cell? ⟨Y, 0, none⟩ = some (.int .i64 fN) := (World.cell?_of_block (w := w6) (a := ⟨Y, 0, none⟩) (Below.heap_setCell _ _ _ _ (show Y ≠ (w.heap.size + 1 + 1) by omega))).trans y0
        have z1 : (w6.setCell ⟨(w.heap.size + 1 + 1), 2, none⟩ (.slice a2 E2.length c2)).cell? ⟨Y, 1, none⟩ = some (.int .i64 l) := (World.cell?_of_block (w := w6) (a := ⟨Y, 1, none⟩) (Below.heap_setCell _ _ _ _ (show Y ≠ (w.heap.size + 1 + 1) by omega))).trans y1
        have z2 : (w6.setCell ⟨(w.heap.size + 1 + 1), 2, none⟩ (.slice a2 E2.length c2)).cell? ⟨Y, 2, none⟩ = some (.int .i64 tN) := (World.cell?_of_block (w := w6) (a := ⟨Y, 2, none⟩) (Below.heap_setCell _ _ _ _ (show Y ≠ (w.heap.size + 1 + 1) by omega))).trans y2
        have z3 : (w6.setCell ⟨(w.heap.size + 1 + 1), 2, none⟩ (.slice a2 E2.length c2)).cell? ⟨P, fN, none⟩ = some (.int .i64 A) := (World.cell?_of_block (w := w6) (a := ⟨P, fN, none⟩) (Below.heap_setCell _ _ _ _ (show P ≠ (w.heap.size + 1 + 1) by omega))).trans y3
        have z4 : (w6.setCell ⟨(w.heap.size + 1 + 1), 2, none⟩ (.slice a2 E2.length c2)).cell? ⟨P, tN, none⟩ = some (.int .i64 Q) := (World.cell?_of_block (w := w6) (a := ⟨P, tN, none⟩) (Below.heap_setCell _ _ _ _ (show P ≠ (w.heap.size + 1 + 1) by omega))).trans y4
        replace hX6 := hidI hX6
        replace hS7 := hidI hS7
        replace hb7 := hidI hb7
        replace hP7 := hidI hP7
        replace hl7 := hidI hl7
        replace hrow6 := hidI hrow6
        replace hb6 := hidI hb6
        refine hK.out _ _ ?_ (fun hHeld => ?_)
        · try dsimp only
          ((repeat' apply And.intro) <;> assumption)
        clear hK
        try simp only [Act.put, lyA, lyB, lyC]
        refine tk 18 115 ?_
        refine rd 19 (fun K hK => ?_)
        rw [if_pos (by rfl)]
        go_simp
        replace y0 := z0
        replace y1 := z1
        replace y2 := z2
        replace y3 := z3
        replace y4 := z4
        refine hK.out _ _ ?_ (fun hHeld => ?_)
        · try dsimp only
          ((repeat' apply And.intro) <;> assumption)
        clear hK
        try simp only [Act.put, lyA, lyB, lyC]
        refine wpAnyH_done (by kernel_rfl) ?_ _
        refine hnorm _ _ ?_
        clear hnorm hpan
        repeat clear hHeld
        try simp only [Exit.then]
        have hst7 : Hid (∃ v', MSt (w6.setCell ⟨(w.heap.size + 1 + 1), 2, none⟩ (.slice a2 E2.length c2)) (w.heap.size + 1 + 1) (w.heap.size + 1 + 1) r (k : Int) v' (rnN pl es (j + 1))) := hidI ⟨_, by rw [hnx2.out]; exact hS7.out⟩
        clear hcall
        go_wp2
        go_roundg (n - (j + 1))
        case rel => exact ⟨j + 1, by have := hj.out; omega, by go_num, hst7, hb7, hP7, hl7.out⟩
        case measure => have := hj.out; omega
      · obtain rfl : j = n := by omega
        have hji : ¬ (j : Int) < (j : Int) := by omega
        have hEZ : E = ZE := by rw [hE, hZE1.out]
        rw [← hZS1.out] at hP6
        subst hEZ
        have hR0 : wr.heap[w.heap.size + 1]? = some (.cells #[.int .i64 0, .int .i64 0, .slice none 0 0] 26 (0, 0)) := by rw [hkb.out.block _ (by omega)]; exact hRk.out wA hbr1.out
        have hbq : Below w.heap.size w wr := hbr.out.trans (hkb.out.mono (by omega))
        have hfin := mst_fin (w := w) (w9 := wr) (X := (w.heap.size + 1 + 1)) (R := w.heap.size + 1) (base := (w.heap.size + 1 + 1)) (cap := cv) (r := r) (s' := ZS) (E := E) (b := true) (a := av) (by omega) (by omega) hbq hP6
        have hX9 := hP6.1
        obtain ⟨x0, x1, x2⟩ := cell3 hX9
        obtain ⟨y0, y1, y2⟩ := cell3 hR0
        have f2 := fun j => frozen_of_row wr (w.heap.size + 1) j _ _ hR0
        simp at x0 x1 x2 y0 y1 y2
        replace hfin := hidI hfin
        replace hR0 := hidI hR0
        replace hX9 := hidI hX9
        replace hP6 := hidI hP6
        replace hj := hidI hj
        replace hbq := hidI hbq
        replace hE := hidI hE
        replace hrow := hidI hrow
        clear hst2
        go_wp2
        (try simp only [Exit.inBlock, Exit.then])
        refine ret_cell2 (x := .bool true) rfl rfl rfl (set3 hR0.out _ _ _) Tryz.underlying26 sizeGraph ?_
        exact hfin.out
theorem wpList_pushI_by {w0 : World} {ops : Array Oper} {rest : List Oper} {o : Oper} {a : Act} {Q : Exit → Act → World → Prop} (hgd : o.guard = none) (s x : Operand)
 (ho : o.op = .call { callee := .builtin .append, args := #[s, x], argTypes := #[46, 46] }) (base : Nat) (v : Value) (zs : List Int) (z : Int)
 (hs : a.eval s = v) (hx : a.eval x = .slice (some ⟨w0.heap.size, 0, none⟩) 1 1) (hown : OwnsI w0 base v zs) (hl : zs.length ≤ 1000000000) (hbase : base ≤ w0.heap.size)
 (h : ∀ v' w', OwnsI w' base v' (zs ++ [z]) → (w0.alloc (.cells #[.int .i64 z] 3)).grownBy w' v.ownBlock → (v'.ownBlock = v.ownBlock ∨ v'.ownBlock = some (w0.heap.size + 1)) → wpList Tryz.prog ops Q rest (a.put o.dst v') w') :
 wpList Tryz.prog ops Q (o :: rest) a (w0.alloc (.cells #[.int .i64 z] 3)) := by
 obtain ⟨i0, hi, hz0, hz1, hz2⟩ := info_parts infoInt
 refine wpList_append_own_at _ hgd s x 46 ho base 3 i0 (.int .i64 0) 1 8 Tryz.underlying46 hi hz0 hz1 hz2 rfl (by decide) v zs.length (zs.map iv) hs (World.ownsRow.alloc hown _) ⟨w0.heap.size, 0, none⟩ 1 1 [iv z] hx rfl (cell_one_new _ _ _) ?_ ?_ ?_ ?_ ?_
 · intro u hu
   simp at hu
   subst hu; rfl
 · unfold maxLen; omega
 · omega
 · simp; omega
 · intro v' w' ho' hg _ hw
   exact h v' w' (by unfold OwnsI; simpa using ho') hg (by simpa using hw)
theorem ownI_other {w w' : World} {base : Nat} {v : Value} {zs : List Int} (h : OwnsI w base v zs) (hb : ∀ k, v.ownBlock = some k → w'.heap[k]? = w.heap[k]?) : OwnsI w' base v zs := by
 obtain ⟨h1, h2 | ⟨g, cap, cur, rfl, hg, hh, hr⟩⟩ := h
 · exact ⟨h1, .inl h2⟩
 · exact ⟨h1, .inr ⟨g, cap, cur, rfl, hg, (hb g rfl).trans hh, hr⟩⟩
def CoSt (w : World) (base lo hi : Nat) (v : Value) (out : List Int) (lv : Value) (ls : List Int) : Prop :=
 OwnsI w base v out ∧ RowI w lo hi lv ls ∧ hi ≤ w.heap.size ∧ (∀ k, v.ownBlock = some k → k < lo ∨ hi ≤ k)
theorem CoSt.below {w w' : World} {base lo hi : Nat} {v : Value} {out : List Int} {lv : Value} {ls : List Int} (h : CoSt w base lo hi v out lv ls) (hb : Below w.heap.size w w') : CoSt w' base lo hi v out lv ls :=
 ⟨ownI_other h.1 (fun k hk => hb.block k (World.ownsRow.lt h.1 k hk).2), h.2.1.below hb h.2.2.1, Nat.le_trans h.2.2.1 hb.size, h.2.2.2⟩
theorem CoSt.push {w w' : World} {base lo hi : Nat} {v v' : Value} {out : List Int} {lv : Value} {ls : List Int} {z : Int} (h : CoSt w base lo hi v out lv ls) (ho : OwnsI w' base v' (out ++ [z]))
 (hg : (w.alloc (.cells #[.int .i64 z] 3)).grownBy w' v.ownBlock) (hv : v'.ownBlock = v.ownBlock ∨ v'.ownBlock = some (w.heap.size + 1)) : CoSt w' base lo hi v' (out ++ [z]) lv ls := by
 have hsz := hg.size
 have hb := (Below.refl w.heap.size w).alloc (Nat.le_refl _) (.cells #[.int .i64 z] 3)
 have h3 := h.2.2.1
 refine ⟨ho, h.2.1.keep (fun k q1 q2 => ?_), ?_, fun k hk => ?_⟩
 · rw [hg.block k (by simp; omega) (fun e => by rcases h.2.2.2 k e.symm with q | q <;> omega)]
   exact hb.block k (by omega)
 · simp at hsz; omega
 · rcases hv with e | e
   · exact h.2.2.2 k (e ▸ hk)
   · rw [e] at hk; right; have : w.heap.size + 1 = k := by simpa using hk
     omega
theorem coS_pre (es : List Ed) (u : Int) (out : List Int) (l : Int) : ∃ t, coS es u out l = out ++ t := by
 unfold coS; split
 · exact ⟨_, rfl⟩
 · exact ⟨[], (List.append_nil _).symm⟩
theorem coR_pre (es : List Ed) (u : Int) (ls : List Int) (out : List Int) : ∀ k, ∃ t, coR es u ls out k = out ++ t := by
 intro k
 unfold coR
 induction ls.take k generalizing out with
 | nil => exact ⟨[], (List.append_nil _).symm⟩
 | cons l r ih =>
  obtain ⟨t1, h1⟩ := coS_pre es u out l
  obtain ⟨t2, h2⟩ := ih (coS es u out l)
  exact ⟨t1 ++ t2, by rw [List.foldl_cons, h2, h1, List.append_assoc]⟩
theorem coR_at {es : List Ed} {u : Int} {ls out : List Int} {k i : Nat} (h : i < out.length) : (coR es u ls out k).getD i 0 = out.getD i 0 ∧ i < (coR es u ls out k).length := by
 obtain ⟨t, ht⟩ := coR_pre es u ls out k
 rw [ht, List.getD_eq_getElem?_getD, List.getElem?_append_left h, List.getD_eq_getElem?_getD, List.length_append]
 exact ⟨rfl, by omega⟩
theorem coN_at {es : List Ed} {ls : List Int} {i : Nat} (h : i < (coN es ls i).length) : coN es ls (i + 1) = coR es ((coN es ls i).getD i 0) ls (coN es ls i) ls.length := by
 rw [coN, if_pos h]
set_option maxRecDepth 100000 in
set_option maxHeartbeats 1600000 in
theorem specCanO (w : World) (r s : Int) (v : Value) (es : List Ed) (h : ReadE w.heap.size w v es) (hs : -9223372036854775808 ≤ s ∧ s ≤ 9223372036854775807) (hl : es.length ≤ 10000000) :
 Calls Tryz.prog 116 #[.agg #[.int .i64 r, .int .i64 s, v]] w (IntsRet w (coL r s es (letsN r.toNat))) := by
 obtain ⟨a, cap, rfl, hnc⟩ := h.form
 obtain ⟨n, hn⟩ := exq es.length
 rw [← hn] at hl hnc ⊢
 rw [← hn] at h
 obtain ⟨w1, hw1⟩ := exq (w.alloc (.cells #[.int .i64 r, .int .i64 s, .slice a n cap] 26))
 have hb1 : Below w.heap.size w w1 := by rw [hw1]; exact (Below.refl _ _).alloc (Nat.le_refl _) _
 have hs1 : w.heap.size < w1.heap.size := by rw [hw1]; simp
 obtain ⟨g0, g1, g2⟩ := box3 hw1
 have hcf := specFold w1 r s (.slice a n cap) es ((h.below hb1).mono hb1.size) hs (by omega)
 obtain ⟨B, hB⟩ := exq (isFo r s es)
 rw [← hB] at hcf
 obtain ⟨F, hF⟩ := exq (coL r s es (letsN r.toNat))
 rw [← hF]
 have hno : B = false → F = [] := fun hb => by rw [hF, coL, ← hB, hb, if_neg (by decide)]
 have hyes : B = true → F = coN es (letsN r.toNat) 40 := fun hb => by rw [hF, coL, ← hB, hb, if_pos rfl]
 have hnext := fun (W : World) (x y : Int) (hr : ReadE W.heap.size W (.slice a n cap) es) => specNext W r s (.slice a n cap) es x y hr (by omega)
 replace hnext := hidI hnext
 replace hno := hidI hno
 replace hyes := hidI hyes
 replace hF := hidI hF
 replace hn := hidI hn
 replace hw1 := hidI hw1
 replace h := hidI h
 go_enter Tryz.func116, Tryz.ntmps116
 go_wp2_with fail
 rw [← hw1.out]
 refine hcf.mono ?_
 rintro e w2 ⟨rfl, hb2⟩
 clear hcf
 replace g0 := below_cell g0 hb2 hs1
 replace g1 := below_cell g1 hb2 hs1
 replace g2 := below_cell g2 hb2 hs1
 have hb12 := hidI (hb1.trans (hb2.mono hb1.size))
 have hs2 : w.heap.size < w2.heap.size := Nat.lt_of_lt_of_le hs1 hb2.size
 clear hb2
 cases B with
 | false =>
  have hfin : Hid (IntsRet w F (.returned (.slice (some ⟨w2.heap.size, 0, none⟩) 0 0)) (w2.alloc (.cells #[] 3))) := by
   rw [hno.out rfl]
   have hbn := (Below.refl w2.heap.size w2).alloc (Nat.le_refl _) (.cells #[] 3)
   exact hidI ⟨_, rfl, ((OwnsI.lit w2).row (by simp)).wide (by omega) (Nat.le_refl _), hb12.out.trans (hbn.mono hb12.out.size)⟩
  replace hB := hidI hB
  replace hno := hidI hno
  replace hyes := hidI hyes
  go_wp2
  go_ret
  exact hfin.out
 | true =>
  have hfo := hB.symm
  have hgr : isGr r s es = true := by rw [isFo, Bool.and_eq_true] at hfo; exact hfo.1
  have hlim := isGr_iff.1 hgr
  have hrs : 1 ≤ r ∧ r ≤ 3 ∧ 1 ≤ s ∧ s ≤ 40 := ⟨hlim.2.1, hlim.2.2.1, hlim.2.2.2.1, hlim.2.2.2.2.1⟩
  obtain ⟨rN, rfl⟩ : ∃ rN : Nat, r = (rN : Int) := ⟨r.toNat, by omega⟩
  rw [Int.toNat_natCast] at hyes
  obtain ⟨ls, hls⟩ := exq (letsN rN)
  have hlet := fun W => specLets W rN (by omega)
  rw [← hls] at hlet hyes
  have hln : ls.length ≤ 6 := by rw [hls, letsN_length]; omega
  have hall := CoIn.all (endsIn_of hgr) (show 0 < s.toNat by omega) ls
  have hE := endsIn_of hgr
  have hF40 := hidI (hyes.out rfl)
  obtain ⟨w3, hw3⟩ := exq (w2.alloc (.cells #[.int .i64 0] 3))
  have hb3 : Below w2.heap.size w2 w3 := by rw [hw3]; exact (Below.refl _ _).alloc (Nat.le_refl _) _
  have hown3 : OwnsI w3 w2.heap.size (.slice (some ⟨w2.heap.size, 0, none⟩) 1 1) [0] := by rw [hw3]; exact World.ownsRow_lit w2 #[.int .i64 0] 1 (by omega) (by unfold maxLen; omega) rfl
  replace g0 := below_cell g0 hb3 hs2
  replace g1 := below_cell g1 hb3 hs2
  replace g2 := below_cell g2 hb3 hs2
  have hs3 : w2.heap.size < w3.heap.size := by rw [hw3]; simp
  have hb13 := hidI (hb12.out.trans (hb3.mono hb12.out.size))
  have hw3' := hw3.symm
  replace hw3' := hidI hw3'
  replace hw3 := hidI hw3
  replace hlim := hidI hlim
  replace hall := hidI hall
  replace hE := hidI hE
  replace hgr := hidI hgr
  replace hfo := hidI hfo
  replace hB := hidI hB
  replace hls := hidI hls
  replace hno := hidI hno
  replace hyes := hidI hyes
  replace hown3 := hidI hown3
  clear hb3
  have hlw := hlet w3
  go_upto_region 4 with fail
  rw [hw3'.out]
  go_wp2_with fail
  refine hlw.mono ?_
  rintro e w4 ⟨lv, rfl, hlr, hb4⟩
  clear hlw
  replace hlet := hidI hlet
  replace g0 := below_cell g0 hb4 (by omega)
  replace g1 := below_cell g1 hb4 (by omega)
  replace g2 := below_cell g2 hb4 (by omega)
  have hs4 := hb4.size
  have hb14 := hidI (hb13.out.trans (hb4.mono hb13.out.size))
  have hown4 : Hid (OwnsI w4 w2.heap.size (.slice (some ⟨w2.heap.size, 0, none⟩) 1 1) (coN es ls 0)) := hidI (ownI_other hown3.out (fun k hk => hb4.block k (World.ownsRow.lt hown3.out k hk).2))
  obtain ⟨al, ml, cl, rfl⟩ : ∃ a m c, lv = Value.slice a m c := by
   obtain ⟨_, ⟨h1, _⟩ | ⟨g, off, cap, cur, h1, _⟩⟩ := hlr <;> exact ⟨_, _, _, h1⟩
  have hml : ml = ls.length := by
   obtain ⟨_, ⟨h1, h2⟩ | ⟨g, off, cap, cur, h1, _⟩⟩ := hlr
   · cases h1; rw [h2]; rfl
   · cases h1; rfl
  obtain ⟨lo, hlo⟩ := exq w3.heap.size
  obtain ⟨hi, hhi⟩ := exq w4.heap.size
  rw [← hlo, ← hhi] at hlr
  have hst0 : Hid (CoSt w4 w2.heap.size lo hi (.slice (some ⟨w2.heap.size, 0, none⟩) 1 1) (coN es ls 0) (.slice al ml cl) ls) := hidI ⟨hown4.out, hlr, by omega, fun k hk => by
   have : w2.heap.size = k := by simpa [Value.ownBlock] using hk
   left; omega⟩
  have hbw := hidI (Below.refl w2.heap.size w4)
  have hs24 : w2.heap.size ≤ w4.heap.size := by omega
  have hml6 : ml ≤ 6 := by omega
  replace hml := hidI hml
  replace hlo := hidI hlo
  replace hhi := hidI hhi
  clear hb4 hlr hown3 hown4
  go_wp2
  go_loopg [3, 5, 6, 7] 40 (fun g o iv_ kv_ xv_ wr => ∃ i : Nat, i + g = 40 ∧ iv_ = .int .i64 i ∧ Hid (CoSt wr w2.heap.size lo hi o (coN es ls i) (.slice al ml cl) ls) ∧ Hid (Below w2.heap.size w4 wr) ∧ w2.heap.size ≤ wr.heap.size ∧ Hid (i ≤ (coN es ls i).length))
  case atStart => exact ⟨0, rfl, rfl, hst0, hbw, hs24, hidI (Nat.zero_le _)⟩
  case round =>
   clear hst0 hbw hs24
   obtain ⟨i, hi40, rfl, hst, hb, hsw, hil⟩ := hrel
   obtain ⟨O, hO⟩ := exq (coN es ls i)
   have hOl : O.length ≤ s.toNat := by rw [hO]; exact (hall.out i).len
   rw [← hO] at hst hil
   obtain ⟨p, hp⟩ := exq O.length
   have hp40 : p ≤ 40 := by omega
   have hipl : i ≤ p := by have := hil.out; omega
   obtain ⟨og, oc, hov⟩ : ∃ g c, u3 = Value.slice g p c := by
    rw [hp]
    obtain ⟨h1, h2 | ⟨g, cap, cur, e, _⟩⟩ := hst.out.1
    · exact ⟨none, 0, by rw [h2.1, h2.2]⟩
    · exact ⟨_, _, e⟩
   subst hov
   by_cases hlt : i < p
   · have hii : (i : Int) < (p : Int) := by omega
     obtain ⟨u, hu⟩ := exq (O.getD i 0)
     have hnxR : Hid (coN es ls (i + 1) = coR es u ls O ls.length) := hidI (by rw [coN_at (by rw [← hO]; omega), ← hO, ← hu])
     have hOin : Hid (CoIn s.toNat O) := hidI (by rw [hO]; exact hall.out i)
     have hst1 : Hid (CoSt wr w2.heap.size lo hi (.slice og p oc) (coR es u ls O 0) (.slice al ml cl) ls) := hst
     have hip : i < O.length := by omega
     have hat := fun k => coR_at (es := es) (u := u) (ls := ls) (k := k) hip
     replace hat := hidI hat
     replace hO := hidI hO
     replace hu := hidI hu
     replace hp := hidI hp
     replace hi40 := hidI hi40
     clear hst
     go_wp2
     go_loopg [3, 6, 7] ml (fun g o kv_ xv_ wr => ∃ k : Nat, k + g = ml ∧ kv_ = .int .i64 k ∧ Hid (CoSt wr w2.heap.size lo hi o (coR es u ls O k) (.slice al ml cl) ls) ∧ Hid (Below w2.heap.size w4 wr) ∧ w2.heap.size ≤ wr.heap.size)
     case atStart => exact ⟨0, by omega, rfl, hst1, hb, hsw⟩
     case round =>
      clear hst1 hb hsw
      obtain ⟨k, hk, rfl, hst, hb, hsw⟩ := hrel
      obtain ⟨L, hL⟩ := exq (coR es u ls O k)
      have hLl : L.length ≤ s.toNat := by rw [hL]; exact (hOin.out.row hE.out ls k).len
      have hLa := hat.out k
      rw [← hL] at hLa hst
      obtain ⟨q, hq⟩ := exq L.length
      have hq40 : q ≤ 40 := by omega
      have hiq : i < q := by omega
      obtain ⟨og, oc, hov⟩ : ∃ g c, u3 = Value.slice g q c := by
       rw [hq]
       obtain ⟨h1, h2 | ⟨g, cap, cur, e, _⟩⟩ := hst.out.1
       · exact ⟨none, 0, by rw [h2.1, h2.2]⟩
       · exact ⟨_, _, e⟩
      subst hov
      by_cases hlt2 : k < ml
      · have hki : (k : Int) < (ml : Int) := by omega
        have hii : (i : Int) < (q : Int) := by omega
        have hrw := (hst.out.1.row (by omega)).read
        obtain ⟨ob, ooff, hob, hobB, c3⟩ := hrw.at2 i (by omega)
        subst hob
        have hlrd := hst.out.2.1.read
        obtain ⟨lb, loff, hlb, hlB, c4⟩ := hlrd.at2 k (by have := hml.out; omega)
        subst hlb
        have hhiw := hst.out.2.2.1
        rw [hLa.1, ← hu.out] at c3
        obtain ⟨z, hz⟩ := exq (ls.getD k 0)
        rw [← hz] at c4
        have q0 := below_cell g0 hb.out hs2
        have q1 := below_cell g1 hb.out hs2
        have q2 := below_cell g2 hb.out hs2
        obtain ⟨wd, hwd⟩ := exq wr.drew
        have hbd : Below wr.heap.size wr wd := by rw [hwd]; exact below_dn (Below.refl _ _) 1
        have hws : w.heap.size < wr.heap.size := by omega
        replace q0 := below_cell q0 hbd hws
        replace q1 := below_cell q1 hbd hws
        replace q2 := below_cell q2 hbd hws
        replace c3 := below_cell c3 hbd hobB
        replace c4 := below_cell c4 hbd (by omega)
        have hstd : Hid (CoSt wd w2.heap.size lo hi (.slice (some ⟨ob, ooff, none⟩) q oc) L (.slice (some ⟨lb, loff, none⟩) ml cl) ls) := hidI (hst.out.below hbd)
        have hbwd : Below w2.heap.size w4 wd := hb.out.trans (hbd.mono hsw)
        have hbwd0 := hb14.out.trans (hbwd.mono (by omega))
        have hcall := hnext.out wd u z ((h.out.below hbwd0).mono hbwd0.size)
        obtain ⟨y, hy⟩ := exq (nxV es u z)
        rw [← hy] at hcall
        have hcoS : coR es u ls O (k + 1) = if 0 ≤ y ∧ y ∉ L then L ++ [y] else L := by
         rw [coR_next (by have := hml.out; omega), ← hL, coS, ← hz, ← hy]
        have hsd := hbd.size
        replace hcoS := hidI hcoS
        replace hy := hidI hy
        replace hz := hidI hz
        replace hL := hidI hL
        replace hq := hidI hq
        replace hk := hidI hk
        replace hwd := hidI hwd
        replace hbwd := hidI hbwd
        replace hLa := hidI hLa
        clear hst hb hrw hlrd hbd
        go_wp2
        refine hideQ (fun _ _ d _ _ h => by cases d <;> exact h) (fun Q' hnorm hpan => ?_)
        refine wp_region_held_drew (S := (fun W0 => W0.cell? ⟨w.heap.size, 0, none⟩ = some (.int .i64 (rN : Int)) ∧ W0.cell? ⟨w.heap.size, 1, none⟩ = some (.int .i64 s) ∧ W0.cell? ⟨w.heap.size, 2, none⟩ = some (.slice a n cap) ∧ W0.cell? ⟨ob, ooff + i, none⟩ = some (.int .i64 u) ∧ W0.cell? ⟨lb, loff + k, none⟩ = some (.int .i64 z))) (by kernel_rfl) ?_ (fun hHeld => ?_)
        · try dsimp only
          first | ((repeat' apply And.intro) <;> assumption) | (rw [← hwd.out]; ((repeat' apply And.intro) <;> assumption))
        rw [← hwd.out] at hHeld ⊢
        refine tk 0 28 ?_
        refine tk 1 29 ?_
        refine tk 2 30 ?_
        refine tk 3 31 ?_
        refine tk 4 32 ?_
        refine tk 5 33 ?_
        refine tk 6 34 ?_
        refine tk 7 35 ?_
        refine tk 8 36 ?_
        refine rd 9 (fun K hK => ?_)
        rw [if_pos (by rfl)]
        go_simp
        refine hcall.mono ?_
        rintro e w5 ⟨rfl, hb5⟩
        have x0 := below_cell q0 hb5 (by omega)
        have x1 := below_cell q1 hb5 (by omega)
        have x2 := below_cell q2 hb5 (by omega)
        have x3 := below_cell c3 hb5 (by omega)
        have x4 := below_cell c4 hb5 (by omega)
        refine hK.out _ _ ?_ (fun hHeld => ?_)
        · try dsimp only
          first | ((repeat' apply And.intro) <;> assumption) | (rw [← hwd.out]; ((repeat' apply And.intro) <;> assumption))
        clear hK
        try simp only [Act.put, lyA, lyB, lyC]
        refine tk 10 7 ?_
        refine wpAnyH_done (by kernel_rfl) ?_ _
        refine hnorm _ _ ?_
        clear hnorm hpan
        repeat clear hHeld
        try simp only [Exit.then]
        have hst5 := hidI (hstd.out.below hb5)
        have hb45 := hidI (hbwd.out.trans (hb5.mono (by omega)))
        have hs5 : w2.heap.size ≤ w5.heap.size := by have := hb5.size; omega
        have hhas := hasL_any w5 w5.heap.size (.slice (some ⟨ob, ooff, none⟩) q oc) L y (hst5.out.1.row (by omega)).read (by omega)
        clear hb5 q0 q1 q2 c3 c4 x0 x1 x2 x3 x4
        by_cases hy0 : 0 ≤ y
        · by_cases hm : y ∈ L
          · have hst6 : Hid (CoSt w5 w2.heap.size lo hi (.slice (some ⟨ob, ooff, none⟩) q oc) (coR es u ls O (k + 1)) (.slice (some ⟨lb, loff, none⟩) ml cl) ls) := hidI (by
             rw [hcoS.out, if_neg (by intro e; exact e.2 hm)]; exact hst5.out)
            rw [show decide (y ∈ L) = true from decide_eq_true hm] at hhas
            replace hm := hidI hm
            go_wp2_with fail
            refine hhas.mono ?_
            rintro e w7 ⟨rfl, hw7⟩
            replace hw7 := hw7.symm
            subst hw7
            clear hhas
            go_wp2
            go_roundg (ml - (k + 1))
            case rel => exact ⟨k + 1, by have := hk.out; omega, by go_num, hst6, hb45, hs5⟩
            case measure => have := hk.out; omega
          · rw [show decide (y ∈ L) = false from decide_eq_false hm] at hhas
            have hcoP : Hid (coR es u ls O (k + 1) = L ++ [y]) := hidI (by rw [hcoS.out, if_pos ⟨hy0, hm⟩])
            have hown5 := hst5.out.1
            replace hm := hidI hm
            go_wp2_with fail
            refine hhas.mono ?_
            rintro e w7 ⟨rfl, hw7⟩
            replace hw7 := hw7.symm
            subst hw7
            clear hhas
            go_wp2_with (at_builtin; go_must (refine wpList_pushI_by rfl _ _ rfl w2.heap.size (.slice (some ⟨ob, ooff, none⟩) q oc) L _ rfl rfl hown5 (by have := hq.out; omega) hs5 ?_))
            intro v6 w6 hown6 hg6 hloc6
            have hst6 : Hid (CoSt w6 w2.heap.size lo hi v6 (coR es u ls O (k + 1)) (.slice (some ⟨lb, loff, none⟩) ml cl) ls) := hidI (by rw [hcoP.out]; exact hst5.out.push hown6 hg6 hloc6)
            have hbn : Below w2.heap.size w5 w6 := ((Below.refl w2.heap.size w5).alloc hs5 _).grown hg6 (by simp; omega) (fun k hk => (World.ownsRow.lt hown5 k hk).1)
            have hb46 := hidI (hb45.out.trans hbn)
            have hs6 : w2.heap.size ≤ w6.heap.size := by have := hbn.size; omega
            clear hown6 hg6 hloc6 hbn hown5
            go_wp2
            go_roundg (ml - (k + 1))
            case rel => exact ⟨k + 1, by have := hk.out; omega, by go_num, hst6, hb46, hs6⟩
            case measure => have := hk.out; omega
        · have hst6 : Hid (CoSt w5 w2.heap.size lo hi (.slice (some ⟨ob, ooff, none⟩) q oc) (coR es u ls O (k + 1)) (.slice (some ⟨lb, loff, none⟩) ml cl) ls) := hidI (by
           rw [hcoS.out, if_neg (by intro e; exact hy0 e.1)]; exact hst5.out)
          clear hhas
          go_wp2
          go_roundg (ml - (k + 1))
          case rel => exact ⟨k + 1, by have := hk.out; omega, by go_num, hst6, hb45, hs5⟩
          case measure => have := hk.out; omega
      · obtain rfl : k = ml := by omega
        have hki : ¬ (k : Int) < (k : Int) := by omega
        have hst6 : Hid (CoSt wr w2.heap.size lo hi (.slice og q oc) (coN es ls (i + 1)) (.slice al k cl) ls) := hidI (by rw [hnxR.out, ← hml.out, ← hL]; exact hst.out)
        have hil6 : Hid (i + 1 ≤ (coN es ls (i + 1)).length) := hidI (by rw [hnxR.out, ← hml.out, ← hL]; omega)
        have hb6 := hb
        replace hL := hidI hL
        replace hq := hidI hq
        replace hk := hidI hk
        replace hLa := hidI hLa
        clear hst hb
        go_wp2
        go_roundg (40 - (i + 1))
        case rel => exact ⟨i + 1, by have := hi40.out; omega, by go_num, hst6, hb6, hsw, hil6⟩
        case measure => have := hi40.out; omega
   · obtain rfl : i = p := by omega
     have hii : ¬ (i : Int) < (i : Int) := by omega
     have hst40 : coN es ls 40 = O := by
      have := coN_stop (es := es) (ls := ls) (i := i) (by rw [← hO]; omega) (40 - i)
      rw [show i + (40 - i) = 40 by omega] at this
      rw [this, hO]
     have hfin : IntsRet w F (.returned (.slice og i oc)) wr := by
      rw [hF40.out, hst40]
      exact ⟨_, rfl, (hst.out.1.row (by omega)).wide (by omega) (Nat.le_refl _), hb14.out.trans (hb.out.mono (by omega))⟩
     replace hfin := hidI hfin
     replace hO := hidI hO
     replace hp := hidI hp
     replace hst40 := hidI hst40
     go_wp2
     go_ret
     exact hfin.out
def cgL (r s : Int) (es : List Ed) : List Int := coL r s es (letsN r.toNat)
def cgS (r s : Int) (es : List Ed) : Int := if (cgL r s es).length = 0 then s else rnS r s es (cgL r s es)
def cgE (r s : Int) (es : List Ed) : List Ed := if (cgL r s es).length = 0 then es else rnE r s es (cgL r s es)
theorem cgL_length (r s : Int) (es : List Ed) : (cgL r s es).length ≤ 40 := by
 unfold cgL coL
 split
 case isTrue h =>
  have hgr : isGr r s es = true := by rw [isFo, Bool.and_eq_true] at h; exact h.1
  have hlim := isGr_iff.1 hgr
  have := (CoIn.all (endsIn_of hgr) (show 0 < s.toNat by omega) (letsN r.toNat) 40).len
  omega
 case isFalse h => simp
theorem cgE_length (r s : Int) (es : List Ed) : (cgE r s es).length ≤ es.length := by
 unfold cgE
 split
 · exact Nat.le_refl _
 · exact rnE_length _ _ _ _
set_option maxRecDepth 100000 in
set_option maxHeartbeats 3200000 in
theorem specCanG (w : World) (r s : Int) (v : Value) (es : List Ed) (h : ReadE w.heap.size w v es) (hs : -9223372036854775808 ≤ s ∧ s ≤ 9223372036854775807) (hl : es.length ≤ 10000000) :
 Calls Tryz.prog 78 #[.agg #[.int .i64 r, .int .i64 s, v]] w (LwGraph w r (cgS r s es) (cgE r s es)) := by
 obtain ⟨a, cap, rfl, hnc⟩ := h.form
 obtain ⟨n, hn⟩ := exq es.length
 rw [← hn] at hl hnc ⊢
 rw [← hn] at h
 obtain ⟨w1, hw1⟩ := exq ((w.alloc (.cells #[.int .i64 r, .int .i64 s, .slice a n cap] 26)).alloc (.cells #[.int .i64 0, .int .i64 0, .slice none 0 0] 26))
 have hb1 : Below w.heap.size w w1 := by rw [hw1]; exact ((Below.refl _ _).alloc (Nat.le_refl _) _).alloc (by simp) _
 have hs1 : w1.heap.size = w.heap.size + 1 + 1 := by rw [hw1]; simp
 have hg : w1.heap[w.heap.size]? = some (.cells #[.int .i64 r, .int .i64 s, .slice a n cap] 26 (0, 0)) := by rw [hw1]; exact heap_box w _ _
 have hR : w1.heap[w.heap.size + 1]? = some (.cells #[.int .i64 0, .int .i64 0, .slice none 0 0] 26 (0, 0)) := by
  have := heap_alloc_new (w.alloc (.cells #[.int .i64 r, .int .i64 s, .slice a n cap] 26)) (.cells #[.int .i64 0, .int .i64 0, .slice none 0 0] 26)
  rw [← hw1] at this; simpa using this
 have g0 : w1.cell? ⟨w.heap.size, 0, none⟩ = some (.int .i64 r) := by simpa using cell_of_heap hg 0
 have g1 : w1.cell? ⟨w.heap.size, 1, none⟩ = some (.int .i64 s) := by simpa using cell_of_heap hg 1
 have g2 : w1.cell? ⟨w.heap.size, 2, none⟩ = some (.slice a n cap) := by simpa using cell_of_heap hg 2
 have hww := hw1.symm
 have hco := specCanO w1 r s (.slice a n cap) es ((h.below hb1).mono hb1.size) hs (by omega)
 have hCl := cgL_length r s es
 obtain ⟨ZS, hZS⟩ := exq (cgS r s es)
 obtain ⟨ZE, hZE⟩ := exq (cgE r s es)
 rw [← hZS, ← hZE]
 unfold cgS at hZS
 unfold cgE at hZE
 unfold cgL at hZS hZE hCl
 obtain ⟨C, hC⟩ := exq (coL r s es (letsN r.toNat))
 rw [← hC] at hco hCl hZS hZE
 obtain ⟨q, hq⟩ := exq C.length
 rw [← hq] at hCl hZS hZE
 have hlt1 : w.heap.size + 1 < w1.heap.size := by omega
 replace hC := hidI hC
 replace hww := hidI hww
 replace hw1 := hidI hw1
 replace hs1 := hidI hs1
 replace hZS := hidI hZS
 replace hZE := hidI hZE
 replace hn := hidI hn
 replace hq := hidI hq
 replace h := hidI h
 replace hg := hidI hg
 replace hR := hidI hR
 go_enter Tryz.func78, Tryz.ntmps78
 go_upto_region 1 with fail
 rw [hww.out]
 go_wp2_with fail
 refine hco.mono ?_
 rintro e w2 ⟨ov, rfl, hrow, hb2⟩
 clear hco
 obtain ⟨oa, oc, hov⟩ : ∃ g c, ov = Value.slice g q c := by
  rw [hq.out]
  obtain ⟨_, ⟨h1, h2⟩ | ⟨g, off, cap, cur, h1, _⟩⟩ := hrow
  · exact ⟨none, 0, by rw [h1, h2]; rfl⟩
  · exact ⟨_, _, h1⟩
 subst hov
 have p0 := below_cell g0 hb2 (by omega)
 have p1 := below_cell g1 hb2 (by omega)
 have p2 := below_cell g2 hb2 (by omega)
 have hb12 := hb1.trans (hb2.mono hb1.size)
 have hsz2 := hb2.size
 have hR2 : w2.heap[w.heap.size + 1]? = some (.cells #[.int .i64 0, .int .i64 0, .slice none 0 0] 26 (0, 0)) := by rw [hb2.block _ hlt1]; exact hR.out
 have hrd2 := (h.out.below hb12).mono hb12.size
 clear g0 g1 g2 hb2
 by_cases hq0 : q = 0
 · have hqz : ((q : Int) == 0) = true := by rw [beq_iff_eq]; omega
   have hcc := specCopy w2 r s (.slice a n cap) es hrd2 (by have := hn.out; omega)
   have hZS0 : Hid (ZS = s) := hidI (by rw [hZS.out, if_pos hq0])
   have hZE0 : Hid (ZE = es) := hidI (by rw [hZE.out, if_pos hq0])
   replace hq0 := hidI hq0
   replace hb12 := hidI hb12
   replace hrow := hidI hrow
   go_wp2_with fail
   refine hcc.mono ?_
   rintro e w5 ⟨ca, cc, rfl, hrow5, hb5⟩
   clear hcc
   have hb15 := hb12.out.trans (hb5.mono hb12.out.size)
   have hR5 : w5.heap[w.heap.size + 1]? = some (.cells #[.int .i64 0, .int .i64 0, .slice none 0 0] 26 (0, 0)) := by rw [hb5.block _ (by omega)]; exact hR2
   obtain ⟨y0, y1, y2⟩ := cell3 hR5
   have f2 := fun j => frozen_of_row w5 (w.heap.size + 1) j _ _ hR5
   simp at y0 y1 y2
   have hset := hidI (set3 hR5 (.int .i64 r) (.int .i64 s) (.slice ca es.length cc))
   have hfin : Hid (LwGraph w r s es (.returned (.agg #[.int .i64 r, .int .i64 s, .slice ca es.length cc])) (((w5.setCell ⟨w.heap.size + 1, 0, none⟩ (.int .i64 r)).setCell ⟨w.heap.size + 1, 1, none⟩ (.int .i64 s)).setCell ⟨w.heap.size + 1, 2, none⟩ (.slice ca es.length cc))) := hidI
    ⟨ca, cc, rfl, (RowS.set3_ hrow5 (.inl (by omega))).wide (by have := hb12.out.size; omega) (by rw [size_set3]; exact Nat.le_refl _), below_set3 hb15 (by omega)⟩
   replace hR5 := hidI hR5
   replace hrow5 := hidI hrow5
   replace hb5 := hidI hb5
   replace hb15 := hidI hb15
   clear p0 p1 p2
   go_wp2
   (try simp only [Exit.inBlock, Exit.then])
   refine ret_cell (cs := #[.int .i64 r, .int .i64 s, .slice ca es.length cc]) rfl (g := w.heap.size + 1) rfl hset.out Tryz.underlying26 sizeGraph ?_
   rw [hZS0.out, hZE0.out]
   exact hfin.out
 · have hqz : ((q : Int) == 0) = false := by rw [beq_eq_false_iff_ne]; omega
   have hrn := specRenum w2 r s (.slice a n cap) (.slice oa q oc) es C hrd2 hs (by have := hn.out; omega) hrow.read (by have := hq.out; omega)
   have hZS1 : ZS = rnS r s es C := by rw [hZS.out, if_neg hq0]
   have hZE1 : ZE = rnE r s es C := by rw [hZE.out, if_neg hq0]
   rw [← hZS1, ← hZE1] at hrn
   obtain ⟨OB, hOB⟩ := exq (okN r s es C)
   rw [← hOB] at hrn
   obtain ⟨m, hm⟩ := exq ZE.length
   replace hOB := hidI hOB
   replace hZS1 := hidI hZS1
   replace hZE1 := hidI hZE1
   replace hq0 := hidI hq0
   replace hrow := hidI hrow
   go_wp2_with fail
   refine hrn.mono ?_
   rintro e w5 ⟨ca, cc, rfl, hrow5, hb5⟩
   rw [← hm]
   rw [← hm] at hrow5
   clear hrn
   have hb15 := hb12.trans (hb5.mono hb12.size)
   have hs5 := hb5.size
   obtain ⟨w6, hw6⟩ := exq (w5.alloc (.cells #[.int .i64 r, .int .i64 ZS, .slice ca m cc] 26))
   have hb6 : Below w5.heap.size w5 w6 := by rw [hw6]; exact (Below.refl _ _).alloc (Nat.le_refl _) _
   obtain ⟨e0_, e1_, e2_⟩ := box3 hw6
   have hR6 : w6.heap[w.heap.size + 1]? = some (.cells #[.int .i64 0, .int .i64 0, .slice none 0 0] 26 (0, 0)) := by rw [hb6.block _ (by omega), hb5.block _ (by omega)]; exact hR2
   have hb16 := hb15.trans (hb6.mono hb15.size)
   have hrow6 := hrow5.below hb6 (Nat.le_refl _)
   obtain ⟨y0, y1, y2⟩ := cell3 hR6
   have f2 := fun j => frozen_of_row w6 (w.heap.size + 1) j _ _ hR6
   simp at y0 y1 y2
   have hset := hidI (set3 hR6 (.int .i64 r) (.int .i64 ZS) (.slice ca m cc))
   have hfin : Hid (LwGraph w r ZS ZE (.returned (.agg #[.int .i64 r, .int .i64 ZS, .slice ca m cc])) (((w6.setCell ⟨w.heap.size + 1, 0, none⟩ (.int .i64 r)).setCell ⟨w.heap.size + 1, 1, none⟩ (.int .i64 ZS)).setCell ⟨w.heap.size + 1, 2, none⟩ (.slice ca m cc))) := hidI (by
    rw [hm] at hrow6 ⊢
    exact ⟨ca, cc, rfl, (RowS.set3_ hrow6 (.inl (by omega))).wide (by have := hb12.size; omega) (by rw [size_set3]; exact hb6.size), below_set3 hb16 (by omega)⟩)
   replace hm := hidI hm
   replace hR6 := hidI hR6
   replace hrow5 := hidI hrow5
   replace hrow6 := hidI hrow6
   replace hb5 := hidI hb5
   replace hb6 := hidI hb6
   replace hb15 := hidI hb15
   replace hb16 := hidI hb16
   clear p0 p1 p2
   go_upto_region 5 with fail
   rw [← hw6]
   replace hw6 := hidI hw6
   go_wp2
   (try simp only [Exit.inBlock, Exit.then])
   refine ret_cell (cs := #[.int .i64 r, .int .i64 ZS, .slice ca m cc]) rfl (g := w.heap.size + 1) rfl hset.out Tryz.underlying26 sizeGraph ?_
   exact hfin.out
set_option maxRecDepth 100000 in
set_option maxHeartbeats 3200000 in
theorem specLeaf (w : World) (r s : Int) (v : Value) (es : List Ed) (h : ReadE w.heap.size w v es) (hs : -9223372036854775808 ≤ s ∧ s ≤ 9223372036854775807) (hl : es.length ≤ 10000000) :
 Calls Tryz.prog 77 #[.agg #[.int .i64 r, .int .i64 s, v]] w (LwInt w (lf r s es)) := by
 obtain ⟨a, cap, rfl, hnc⟩ := h.form
 obtain ⟨n, hn⟩ := exq es.length
 rw [← hn] at hl hnc ⊢
 rw [← hn] at h
 obtain ⟨w1, hw1⟩ := exq (w.alloc (.cells #[.int .i64 r, .int .i64 s, .slice a n cap] 26))
 have hb1 : Below w.heap.size w w1 := by rw [hw1]; exact (Below.refl _ _).alloc (Nat.le_refl _) _
 have hs1 : w.heap.size < w1.heap.size := by rw [hw1]; simp
 obtain ⟨g0, g1, g2⟩ := box3 hw1
 have hre := specReach w1 r s (.slice a n cap) es 0 ((h.below hb1).mono hb1.size) hs (by omega)
 have hdeg := fun (W : World) (x : Int) (hr : ReadE W.heap.size W (.slice a n cap) es) => specDeg W r s (.slice a n cap) es x hr (by omega)
 obtain ⟨X, hX⟩ := exq (reachG r s es 0)
 rw [← hX] at hre
 have hXl : X.length ≤ 40 := by rw [hX]; exact reachG_length r s es 0
 have hleaf : ∀ x, leafB r s es x = (decide (degE x es < 2) || !decide (x ∈ X)) := fun x => by rw [hX]; rfl
 obtain ⟨F, hF⟩ := exq (lf r s es)
 rw [← hF]
 have hF0 : Hid (F = lfN r s es 1 (s - 1).toNat) := hidI hF
 replace hleaf := hidI hleaf
 replace hdeg := hidI hdeg
 replace hX := hidI hX
 replace hF := hidI hF
 replace hn := hidI hn
 replace h := hidI h
 replace hw1 := hidI hw1
 go_enter Tryz.func77, Tryz.ntmps77
 go_wp2_with fail
 rw [← hw1.out]
 refine hre.mono ?_
 rintro e w2 ⟨xv, rfl, hrow, hb2⟩
 clear hre
 have p0 := below_cell g0 hb2 hs1
 have p1 := below_cell g1 hb2 hs1
 have p2 := below_cell g2 hb2 hs1
 have hs2 : w.heap.size < w2.heap.size := Nat.lt_of_lt_of_le hs1 hb2.size
 have hb02 := hidI (hb1.trans (hb2.mono hb1.size))
 have hrx := hidI (hrow.read.mono (Nat.le_refl _))
 clear hrow hb2 g0 g1 g2
 go_wp2
 go_loopg [4] (s - 1).toNat (fun g i wr => ∃ k : Int, g = (s - k).toNat ∧ i = .int .i64 k ∧ 1 ≤ k ∧ Hid (F = lfN r s es k (s - k).toNat) ∧ Hid (Below w2.heap.size w2 wr))
 case atStart => exact ⟨1, rfl, rfl, by omega, hF0, hidI (Below.refl _ _)⟩
 case round =>
  obtain ⟨k, hg, rfl, hk1, hlf, hb⟩ := hrel
  have q0 := below_cell p0 hb.out hs2
  have q1 := below_cell p1 hb.out hs2
  have q2 := below_cell p2 hb.out hs2
  by_cases hlt : k < s
  · have hlf2 : F = if leafB r s es k = true then k else lfN r s es (k + 1) (s - (k + 1)).toNat := by
     rw [hlf.out, show (s - k).toNat = (s - (k + 1)).toNat + 1 by omega]; rfl
    have hbr := hb02.out.trans (hb.out.mono hb02.out.size)
    have hdg := hdeg.out wr k ((h.out.below hbr).mono hbr.size)
    have hlk := hleaf.out k
    obtain ⟨d, hd⟩ := exq (degE k es)
    rw [← hd] at hdg hlk
    replace hd := hidI hd
    replace hg := hidI hg
    by_cases hd2 : d < 2
    · have hfin : F = k := by rw [hlf2, if_pos]; rw [hlk, decide_eq_true hd2]; rfl
      replace hfin := hidI hfin
      clear hlf2 hlk hlf
      go_wp2_with fail
      refine hdg.mono ?_
      rintro e w3 ⟨rfl, hb3⟩
      have hbq := hbr.trans (hb3.mono hbr.size)
      clear hdg
      go_wp2
      go_ret
      exact ⟨ret_i hfin.out.symm, hbq⟩
    · by_cases hm : k ∈ X
      · have hnx : Hid (F = lfN r s es (k + 1) (s - (k + 1)).toNat) := hidI (by
         rw [hlf2, if_neg]
         rw [hlk, decide_eq_true hm, decide_eq_false hd2]
         decide)
        have hmt : decide (k ∈ X) = true := decide_eq_true hm
        replace hm := hidI hm
        clear hlf2 hlk hlf
        go_wp2_with fail
        refine hdg.mono ?_
        rintro e w3 ⟨rfl, hb3⟩
        have hbz := hb.out.trans (hb3.mono hb.out.size)
        have hhas := hasL_any w3 w3.heap.size xv X k ((hrx.out.below hbz).mono hbz.size) (by omega)
        rw [hmt] at hhas
        replace hmt := hidI hmt
        replace hbz := hidI hbz
        clear hdg
        go_wp2_with fail
        refine hhas.mono ?_
        rintro e w4 ⟨rfl, rfl⟩
        clear hhas
        go_wp2
        go_roundg ((s - (k + 1)).toNat)
        case rel => exact ⟨k + 1, rfl, by go_num, by omega, hnx, hbz⟩
        case measure => have := hg.out; omega
      · have hfin : F = k := by rw [hlf2, if_pos]; rw [hlk, decide_eq_false hm]; simp
        have hmt : decide (k ∈ X) = false := decide_eq_false hm
        replace hm := hidI hm
        replace hfin := hidI hfin
        clear hlf2 hlk hlf
        go_wp2_with fail
        refine hdg.mono ?_
        rintro e w3 ⟨rfl, hb3⟩
        have hbz := hb.out.trans (hb3.mono hb.out.size)
        have hhas := hasL_any w3 w3.heap.size xv X k ((hrx.out.below hbz).mono hbz.size) (by omega)
        rw [hmt] at hhas
        replace hmt := hidI hmt
        have hbq := hidI (hbr.trans (hb3.mono hbr.size))
        replace hbz := hidI hbz
        clear hdg
        go_wp2_with fail
        refine hhas.mono ?_
        rintro e w4 ⟨rfl, rfl⟩
        clear hhas
        go_wp2
        go_ret
        exact ⟨ret_i hfin.out.symm, hbq.out⟩
  · have hfin : F = -1 := by rw [hlf.out, show (s - k).toNat = 0 by omega]; rfl
    have hbr := hb02.out.trans (hb.out.mono hb02.out.size)
    replace hfin := hidI hfin
    replace hg := hidI hg
    go_wp2
    go_ret
    exact ⟨ret_i hfin.out.symm, hbr⟩
def LwGraphInts (w : World) (r s : Int) (es : List Ed) (l : List Int) (e : Ending) (w' : World) : Prop :=
 ∃ (a : Option Addr) (cap : Nat) (v : Value) (glo ghi flo fhi : Nat), e = .returned (.tuple #[.agg #[.int .i64 r, .int .i64 s, .slice a es.length cap], v]) ∧
  (w.heap.size ≤ glo ∧ glo ≤ ghi ∧ ghi ≤ w'.heap.size ∧ w.heap.size ≤ flo ∧ flo ≤ fhi ∧ fhi ≤ w'.heap.size ∧ (ghi ≤ flo ∨ fhi ≤ glo)) ∧
  RowS 72 3 w' glo ghi (.slice a es.length cap) es.length (flatE es) ∧ RowI w' flo fhi v l ∧ Below w.heap.size w w'
end Go.Proofs.YtpjlamnjiilgbaaGreat
