import Derived.Maps.AppendAt
import Derived.Deep.Cut
import Derived.Lib.SliceRun
import Derived.Deep.LoopGhost
import Derived.BigQuiet
import Derived.Test.YtgnomlcjikfdhaaGreatJ5Me
import Derived.Test.YtgnomlcjikfdhaaGreatJ1Me
import Derived.Test.YtgnomlcjikfdhaaGreatJ4Me
import Derived.Test.YtgnomlcjikfdhaaGreatJ3Me
import Derived.Test.YtgnomlcjikfdhaaGreatJ6Me
import Derived.Test.YtgnomlcjikfdhaaGreatJ0Me
namespace Go.Proofs.YtgnomlcjikfdhaaGreat
open Go.RowKit
set_option linter.unusedVariables false
set_option linter.unusedSimpArgs false
theorem bG.other {T : TypeId} {sz n base : Nat} {w w' : World} {v : Value} {zs : List Int} (h : bG T sz w base v n zs) (hb : ∀ k, v.ownBlock = some k → w'.heap[k]? = w.heap[k]?) : bG T sz w' base v n zs := by
 obtain ⟨h1, h2 | ⟨g, cap, cur, rfl, hg, hh, hr⟩⟩ := h
 · exact ⟨h1, .inl h2⟩
 · exact ⟨h1, .inr ⟨g, cap, cur, rfl, hg, (hb g rfl).trans hh, hr⟩⟩
def eB (u l v : Int) : Ed := if l < 0 then (v, -l, u) else (u, l, v)
structure BO (w : World) (G A base : Nat) (r s y : Int) (v : Value) (es : List Ed) : Prop where
 box : w.heap[G]? = some (.cells #[.int .i64 r, .int .i64 s, v] 26 (0, 0))
 at_ : w.heap[A]? = some (.cells #[.int .i64 y] 3 (0, 0))
 row : bF w base v es
 vG : v.ownBlock ≠ some G
 vA : v.ownBlock ≠ some A
 GA : G < base ∧ base ≤ A ∧ A < w.heap.size
def jC (B G : Nat) (w w' : World) : Prop := w'.os = w.os ∧ w'.tape = w.tape ∧ w'.output = w.output ∧ w.heap.size ≤ w'.heap.size ∧ ∀ k, k < B → k ≠ G → w'.heap[k]? = w.heap[k]?
theorem jC.refl (B G : Nat) (w : World) : jC B G w w := ⟨rfl, rfl, rfl, nl _, fun _ _ _ => rfl⟩
theorem jC.trans {B G : Nat} {a b c : World} (h : jC B G a b) (k : jC B G b c) : jC B G a c :=
 ⟨k.1.trans h.1, k.2.1.trans h.2.1, k.2.2.1.trans h.2.2.1, Nat.le_trans h.2.2.2.1 k.2.2.2.1, fun i hi hne => (k.2.2.2.2 i hi hne).trans (h.2.2.2.2 i hi hne)⟩
theorem jC.below {B G : Nat} {a b : World} (h : jC B G a b) (hG : G ≤ B) : Below G a b := ⟨h.1, h.2.1, h.2.2.1, h.2.2.2.1, fun k hk => h.2.2.2.2 k (by omega) (by omega)⟩
def dd (ds : List Ed) : Nat → List Ed
 | 0 => []
 | p + 1 => if p = 0 ∨ ds.getD p e0 ≠ ds.getD (p - 1) e0 then dd ds p ++ [ds.getD p e0] else dd ds p
theorem MM {ds : List Ed} {p : Nat} (h : p = 0 ∨ ds.getD p e0 ≠ ds.getD (p - 1) e0) : dd ds (p + 1) = dd ds p ++ [ds.getD p e0] := by rw [dd, if_pos h]
theorem NC {ds : List Ed} {p : Nat} (h0 : p ≠ 0) (h : ds.getD p e0 = ds.getD (p - 1) e0) : dd ds (p + 1) = dd ds p := by
 rw [dd, if_neg]; rintro (e | e)
 · exact h0 e
 · exact e h
theorem FX : ∀ (C : List Ed) (k : Nat) (e : Ed), k < C.length → (((aC C).set (k * 3) e.1).set (k * 3 + 1) e.2.1).set (k * 3 + 2) e.2.2 = aC (C.set k e) := by
 intro C
 induction C with
 | nil => intro k e h; simp at h
 | cons c C ih =>
  intro k e h
  cases k with
  | zero => simp [aC]
  | succ k =>
   have := ih k e (by simpa using h)
   rw [show (k + 1) * 3 = k * 3 + 1 + 1 + 1 by omega]
   simp only [aC, List.set_cons_succ]; rw [this]
theorem bF.at3 {w : World} {base g cap n : Nat} {C : List Ed} (h : bF w base (.slice (some ⟨g, 0, none⟩) n cap) C) {i : Nat} (hi : i < C.length) :
 w.cell? ⟨g, i * 3, none⟩ = some (.int .i64 (C.getD i e0).1) ∧ w.cell? ⟨g, i * 3 + 1, none⟩ = some (.int .i64 (C.getD i e0).2.1) ∧ w.cell? ⟨g, i * 3 + 2, none⟩ = some (.int .i64 (C.getD i e0).2.2) := by
 have hn : n = C.length := by
  obtain ⟨_, h2 | ⟨g', cap', cur, hv, _⟩⟩ := h
  · cases h2.1
  · cases hv; rfl
 subst hn; obtain ⟨h0, h1, h2⟩ := qX C i hi; have key : ∀ m z, m < C.length * 3 → (aC C).getD m 0 = z → w.cell? ⟨g, m, none⟩ = some (.int .i64 z) := fun m z hm hz => by
  rw [World.ownsRow.cellAt h m hm, List.getElem?_map, ← hz, gD]; have : m < (aC C).length := by rw [jD]; exact hm
  rw [gE this]; rfl
 exact ⟨key _ _ (by omega) h0, key _ _ (by omega) h1, key _ _ (by omega) h2⟩
def qN (w wr : World) (base g cap : Nat) (ds : List Ed) (p k : Nat) : Prop :=
 ∃ C : List Ed, C.length = ds.length ∧ bF wr base (.slice (some ⟨g, 0, none⟩) ds.length cap) C ∧ C.take k = dd ds p ∧ (∀ j, p - 1 ≤ j → j < ds.length → C.getD j e0 = ds.getD j e0) ∧ w.grownBy wr (some g)
theorem qN.put {w wr : World} {base g cap : Nat} {ds : List Ed} {p k : Nat} {f l t : Int} (h : qN w wr base g cap ds p k) (hp : p < ds.length) (hk : k + 1 ≤ p) (he : ds.getD p e0 = (f, l, t)) (hd : p = 0 ∨ ds.getD p e0 ≠ ds.getD (p - 1) e0) (m : Nat) :
 qN w ((((wr.drewN m).setCell ⟨g, k * 3, none⟩ (.int .i64 f)).setCell ⟨g, k * 3 + 1, none⟩ (.int .i64 l)).setCell ⟨g, k * 3 + 2, none⟩ (.int .i64 t)) base g cap ds (p + 1) (k + 1) := by
 obtain ⟨C, h1, h2, h3, h4, h5⟩ := h; have h2' : bF (wr.drewN m) base (.slice (some ⟨g, 0, none⟩) ds.length cap) C := h2; have hst := bG.put (bG.put (bG.put (h1 ▸ h2') (k * 3) f) (k * 3 + 1) l) (k * 3 + 2) t; refine ⟨C.set k (f, l, t), by rw [List.length_set, h1], ?_, ?_, fun j hj hjl => ?_, ?_⟩
 · have hfs := FX C k (f, l, t) (by omega)
   simp only at hfs
   rw [hfs] at hst; unfold bF; rw [List.length_set]; exact h1 ▸ hst
 · rw [MM hd, he, ← h3, List.take_add_one, List.getElem?_set_self (by omega), List.take_set_of_le (nl _)]
   rfl
 · rw [gD, List.getElem?_set_ne (by omega), ← gD]
   exact h4 j (by omega) hjl
 · refine ⟨h5.os, h5.tape, h5.output, by simpa [World.setCell] using h5.size, fun j hj hne => ?_⟩
   have hjg : j ≠ g := fun e => hne (by rw [e])
   rw [Below.heap_setCell _ _ _ _ hjg, Below.heap_setCell _ _ _ _ hjg, Below.heap_setCell _ _ _ _ hjg]; exact h5.block j hj hne
theorem qN.skip {w wr : World} {base g cap : Nat} {ds : List Ed} {p k : Nat} (h : qN w wr base g cap ds p k) (hp0 : p ≠ 0) (he : ds.getD p e0 = ds.getD (p - 1) e0) (m : Nat) : qN w (wr.drewN m) base g cap ds (p + 1) k := by
 obtain ⟨C, h1, h2, h3, h4, h5⟩ := h; exact ⟨C, h1, h2, by rw [NC hp0 he]; exact h3, fun j hj hjl => h4 j (by omega) hjl, ⟨h5.os, h5.tape, h5.output, h5.size, h5.block⟩⟩
abbrev lD (es : List Ed) : Prop := es.Pairwise (fun a b => bP a b < 0)
theorem lH {r s : Int} {es : List Ed} (h : aK r s es = true) : lD es := by
 obtain ⟨hp, _⟩ := dN.1 h; have hstep : ∀ i, 0 < i → i < es.length → bP (es.getD (i - 1) e0) (es.getD i e0) < 0 := fun i h0 hi => by
  have := hp i hi; unfold cZ at this; simp only [Bool.and_eq_true, Bool.or_eq_true, decide_eq_true_eq] at this
  rcases this.2 with h | h
  · omega
  · exact h
 have hfar : ∀ d i, i + d + 1 < es.length → bP (es.getD i e0) (es.getD (i + d + 1) e0) < 0 := by
  intro d
  induction d with
  | zero => intro i hi; exact hstep (i + 1) (by omega) hi
  | succ d ih =>
   intro i hi; exact kL (ih i (by omega)) (hstep (i + (d + 1) + 1) (by omega) hi)
 unfold lD; rw [List.pairwise_iff_getElem]; intro i j hi hj hij; have := hfar (j - i - 1) i (by omega)
 rw [show i + (j - i - 1) + 1 = j by omega, gD, gD, gE hi, gE hj] at this
 exact this
theorem Au {e x : Ed} : ∀ {es : List Ed}, x ∈ dE e es ↔ x = e ∨ x ∈ es := by
 intro es
 induction es with
 | nil => simp [dE]
 | cons y ys ih =>
  rcases jG e y with c | c | c
  · rw [qL ys (by omega)]; simp
  · rw [qO ys c]
    have := qg c; subst this; simp
  · rw [qG ys (by omega), List.mem_cons, ih, List.mem_cons]
    constructor
    · rintro (h | h | h)
      · exact .inr (.inl h)
      · exact .inl h
      · exact .inr (.inr h)
    · rintro (h | h | h)
      · exact .inr (.inl h)
      · exact .inl h
      · exact .inr (.inr h)
theorem JM (e : Ed) : ∀ {es : List Ed}, lD es → lD (dE e es) := by
 intro es
 induction es with
 | nil => intro _; exact List.pairwise_singleton _ _
 | cons y ys ih =>
  intro h; have hp := List.pairwise_cons.1 h
  rcases jG e y with c | c | c
  · rw [qL ys (by omega)]
    refine List.pairwise_cons.2 ⟨fun z hz => ?_, h⟩
    rcases List.mem_cons.1 hz with hz | hz
    · rw [hz]; omega
    · exact kL (by omega : bP e y < 0) (hp.1 z hz)
  · rw [qO ys c]; exact h
  · rw [qG ys (by omega)]
    refine List.pairwise_cons.2 ⟨fun z hz => ?_, ih hp.2⟩
    rcases Au.1 hz with hz | hz
    · rw [hz]; have := lu e y; omega
    · exact hp.1 z hz
def dD (es L : List Ed) : List Ed := L.foldl (fun acc e => dE e acc) es
theorem jO (es L : List Ed) (e : Ed) : dD es (L ++ [e]) = dE e (dD es L) := by unfold dD; rw [List.foldl_append]; rfl
theorem kX : ∀ (L es : List Ed), lD es → lD (dD es L) ∧ ∀ x, x ∈ dD es L ↔ x ∈ es ∨ x ∈ L := by
 intro L
 induction L with
 | nil => intro es h; exact ⟨h, fun x => by simp [dD]⟩
 | cons e L ih =>
  intro es h; obtain ⟨h1, h2⟩ := ih (dE e es) (JM e h); refine ⟨h1, fun x => ?_⟩
  show x ∈ dD (dE e es) L ↔ _
  rw [h2, Au, List.mem_cons]; constructor
  · rintro ((h | h) | h)
    · exact .inr (.inl h)
    · exact .inl h
    · exact .inr (.inr h)
  · rintro (h | h | h)
    · exact .inl (.inr h)
    · exact .inl (.inl h)
    · exact .inr h
theorem tq (L : List Ed) : ∀ es, (dD es L).length ≤ es.length + L.length := by
 induction L with
 | nil => intro es; simp [dD]
 | cons e L ih =>
  intro es; have h1 := ih (dE e es); have h2 := je e es; show (dD (dE e es) L).length ≤ _
  rw [List.length_cons]; omega
theorem vV : ∀ {a b : List Ed}, lD a → lD b → (∀ x, x ∈ a ↔ x ∈ b) → a = b := by
 intro a
 induction a with
 | nil =>
  intro b _ _ h
  cases b with
  | nil => rfl
  | cons y ys => exact absurd ((h y).2 List.mem_cons_self) (by simp)
 | cons x xs ih =>
  intro b ha hb h
  cases b with
  | nil => exact absurd ((h x).1 List.mem_cons_self) (by simp)
  | cons y ys =>
   have hxa := List.pairwise_cons.1 ha; have hyb := List.pairwise_cons.1 hb; have hxy : x = y := by
    rcases List.mem_cons.1 ((h x).1 List.mem_cons_self) with e | e
    · exact e
    · rcases List.mem_cons.1 ((h y).2 List.mem_cons_self) with e2 | e2
      · exact e2.symm
      · have h1 := hyb.1 x e
        have h2 := hxa.1 y e2; have := lu x y; omega
   subst hxy; congr 1
   refine ih hxa.2 hyb.2 fun z => ⟨fun hz => ?_, fun hz => ?_⟩
   · rcases List.mem_cons.1 ((h z).1 (List.mem_cons_of_mem _ hz)) with e | e
     · subst e; have := hxa.1 z hz; rw [lI] at this; omega
     · exact e
   · rcases List.mem_cons.1 ((h z).2 (List.mem_cons_of_mem _ hz)) with e | e
     · subst e; have := hyb.1 z hz; rw [lI] at this; omega
     · exact e
theorem fB {es : List Ed} {i : Nat} (h : i < es.length) : es.getD i e0 = es[i] := by rw [gD, gE h]; rfl
end Go.Proofs.YtgnomlcjikfdhaaGreat
namespace Go.Proofs.YtgnomlcjikfdhaaGreat
open Go.RowKit
set_option linter.unusedVariables false
set_option maxHeartbeats 800000 in
theorem Dk (w : World) (v1 v2 : Value) (z1 z2 : List Int) (h1 : bD w.heap.size w v1 z1) (h2 : bD w.heap.size w v2 z2) (hl1 : z1.length ≤ 40000000) (hl2 : z2.length ≤ 40000000) :
 Calls Tryz.prog 29 #[v1, v2] w (bW w (ry z1 z2)) := by
 have hr1 := ae h1; have hr2 := ae h2; clear h1 h2; have hb0 : Below w.heap.size w (w.alloc (.cells #[] 3)) := (Below.refl _ _).alloc (nl _) _; have hlit := ae (ak.lit w); have hs0 : ([] : List Int).length + z1.length ≤ 1000000000 := by simp; omega
 go_enter Tryz.func29, Tryz.ntmps29
 go_wp2_with (at_builtin; go_must (refine jT rfl (.tmp 5) (.tmp 6) rfl w.heap.size _ _ [] z1 w.heap.size rfl rfl (by exact hlit.out) (by exact hr1.out.below hb0) hs0 hb0.size ?_))
 intro v3 w3 hown3 hb3'; have hb3 := hb0.trans hb3'; have hown3' : ak w3 w.heap.size v3 z1 := hown3; have hs3 : z1.length + z2.length ≤ 1000000000 := by omega
 replace hown3' := ae hown3'; clear hown3 hb3' hlit; go_wp2_with (at_builtin; go_must (refine jT rfl _ _ rfl w.heap.size _ _ z1 z2 w.heap.size rfl rfl (by exact hown3'.out) (by exact hr2.out.below hb3) hs3 hb3.size ?_))
 intro v4 w4 hown4 hb4'; have hb4 := hb3.trans hb4'; have hz : (z1 ++ z2).length ≤ 100000000 := by rw [List.length_append]; omega
 have hrd : bD w4.heap.size w4 v4 (z1 ++ z2) := (hown4.row (by omega)).read
 have hs4 := hb4.size; clear hown4 hb4' hown3' hb3 hb0; go_wp2_with fail; refine (DX w4 v4 (z1 ++ z2) hrd hz).mono ?_; rintro e w5 ⟨v5, rfl, hrow, hb5'⟩; have hb5 := hb4.trans (hb5'.mono hs4); have hrow2 := ae (hrow.wide hs4 (nl _)); clear hrow hb5' hrd; go_wp2_with fail; go_ret; exact ⟨v5, rfl, hrow2.out, hb5⟩
theorem bg.later {w w' : World} {lo hi : Nat} {v : Value} {zs : List Int} (h : bg w lo hi v zs) (hb : Below hi w w') (hs : hi ≤ w'.heap.size) : bD w'.heap.size w' v zs :=
 ((h.read).below hb).mono hs
theorem ak.later {w w' : World} {base B : Nat} {v : Value} {zs : List Int} (h : ak w base v zs) (hb : Below B w w') (hB : w.heap.size ≤ B) : ak w' base v zs := by
 obtain ⟨hl, h1 | ⟨g, cap, cur, hv, hg, hh, hr⟩⟩ := h
 · exact ⟨hl, .inl h1⟩
 · have hlt : g < w.heap.size := (Array.getElem?_eq_some_iff.1 hh).1
   exact ⟨hl, .inr ⟨g, cap, cur, hv, hg, by rw [hb.block g (by omega)]; exact hh, hr⟩⟩
theorem bD.blocks {B : Nat} {w w' : World} {v : Value} {zs : List Int} (h : bD B w v zs) (hb : ∀ k, k < B → w'.heap[k]? = w.heap[k]?) : bD B w' v zs := by
 obtain ⟨hl, a, cap, hv, hnil, hc⟩ := h; refine ⟨hl, a, cap, hv, hnil, hc.imp id ?_⟩; rintro ⟨b, off, ha, hB, hcell⟩; exact ⟨b, off, ha, hB, fun i hi => by rw [World.cell?_of_block (hb b hB)]; exact hcell i hi⟩
def nO (rank : Int) (zs : List Int) (i : Nat) : Prop :=
 zs.getD i 0 ≠ 0 ∧ ng rank ≤ zs.getD i 0 ∧ zs.getD i 0 ≤ rank ∧ (0 < i → zs.getD i 0 ≠ ng (zs.getD (i - 1) 0))
instance (rank : Int) (zs : List Int) (i : Nat) : Decidable (nO rank zs i) := by unfold nO; infer_instance
def jU (rank : Int) (zs : List Int) : Bool := decide ((∀ i, i < zs.length → nO rank zs i) ∧ 1 ≤ rank ∧ rank ≤ 3 ∧ zs.length ≤ 24)
theorem KI {rank : Int} {zs : List Int} {i : Nat} (hi : i < zs.length) (h : ¬ nO rank zs i) : jU rank zs = false := by
 unfold jU; rw [decide_eq_false_iff_not]; exact fun h' => h (h'.1 i hi)
theorem LK {rank : Int} {zs : List Int} (h : ∀ i, i < zs.length → nO rank zs i) : jU rank zs = decide (1 ≤ rank ∧ rank ≤ 3 ∧ zs.length ≤ 24) := by
 unfold jU; rw [decide_eq_decide]; exact ⟨fun h' => h'.2, fun h' => ⟨h, h'⟩⟩
set_option maxHeartbeats 1600000 in
theorem D8 (w : World) (B : Nat) (v : Value) (zs : List Int) (r : Int) (h : bD B w v zs) :
 Calls Tryz.prog 174 #[.int .i64 r, v] w (Ef w (jU r zs)) := by
 have hr := h; obtain ⟨hl, a, cap, rfl, _, hq⟩ := h; clear hq; obtain ⟨n, hn⟩ := ag zs.length; rw [← hn] at hr hl ⊢; replace hn := ae hn; replace hr := ae hr; go_enter Tryz.func174, Tryz.ntmps174
 go_wp2
 go_loopw [5] (fun i wr => ∃ k m : Nat, k ≤ n ∧ i = .int .i64 k ∧ wr = w.drewN m ∧ ∀ i, i < k → nO r zs i) (fun i _ => n - (intOf i).toNat)
 case atStart => exact ⟨0, 0, Nat.zero_le _, rfl, rfl, fun i h => by omega⟩
 case round =>
  obtain ⟨k, m, hk, rfl, rfl, heq⟩ := hrel; by_cases hlt : k < n
  · obtain ⟨x, hx⟩ := ag (zs.getD k 0)
    obtain ⟨y, hy⟩ := ag (zs.getD (k - 1) 0); obtain ⟨b, off, rfl, hB, hc⟩ := hr.out.at_ k (by have := hn.out; omega)
    have hcy : 0 < k → w.cell? ⟨b, off + (k - 1), none⟩ = some (.int .i64 y) := by
     intro h0; obtain ⟨b', off', e, _, hc'⟩ := hr.out.at_ (k - 1) (by have := hn.out; omega)
     cases e
     rw [hy]; exact hc'
    rw [← hx] at hc; obtain ⟨w0, hw0⟩ := ag (w.drewN m); have hcx : w0.cell? ⟨b, off + k, none⟩ = some (.int .i64 x) := by rw [hw0]; exact hc
    replace hcy : 0 < k → w0.cell? ⟨b, off + (k - 1), none⟩ = some (.int .i64 y) := by rw [hw0]; exact hcy
    have hlt2 : (k : Int) < (n : Int) := by omega
    have hokd : nO r zs k ↔ x ≠ 0 ∧ ng r ≤ x ∧ x ≤ r ∧ (0 < k → x ≠ ng y) := by unfold nO; rw [← hx, ← hy]
    have hbad : ¬ nO r zs k → jU r zs = false := fun h => KI (by have := hn.out; omega) h
    have hnext : nO r zs k → ∀ i, i < k + 1 → nO r zs i := by
     intro h i hi; by_cases e : i = k
     · subst e; exact h
     · exact heq i (by omega)
    rw [← hw0]; clear hc heq; replace hw0 := ae hw0; replace hx := ae hx; replace hy := ae hy; by_cases hx0 : x = 0
    · have hb := ae (hbad (by rw [hokd]; exact fun h => h.1 hx0))
      have hx1 : (x == 0) = true := by rw [beq_iff_eq]; exact hx0
      clear hbad hokd hnext hcy hx0; go_wp2; go_quiet (fail)
      go_wp2; go_ret; exact ⟨au hb.out.symm, _, by rw [hw0.out]; exact World.drewN_drewN ..⟩
    · have hx1 : (x == 0) = false := by rw [beq_eq_false_iff_ne]; exact hx0
      have hxn := ae hx0; by_cases hin : ng r ≤ x ∧ x ≤ r
      · have hcall : ∀ w', Calls Tryz.prog 63 #[.int .i64 x, .int .i64 (wrap64 (-r)), .int .i64 r] w' fun e w'' => e = .returned (.bool true) ∧ w'' = w' :=
         fun w' => (Bd x (ng r) r w' hin.1 hin.2).mono (fun e w'' h => ⟨h.1, h.2.symm⟩)
        have hin' := ae hin; clear hin; by_cases hk0 : 0 < k
        · have hk1 : decide (0 < (k : Int)) = true := by simp; omega
          have hk2 : (1 : Int) ≤ (k : Int) := by omega
          have hcell := hcy hk0; obtain ⟨k', rfl⟩ : ∃ k', k = k' + 1 := ⟨k - 1, by omega⟩
          rw [show k' + 1 - 1 = k' by omega] at hcell
          have hidx : ((k' : Int) + 1 - 1) = (k' : Int) := by omega
          by_cases hxy : x = ng y
          · have hb := ae (hbad (by rw [hokd]; exact fun h => h.2.2.2 hk0 hxy))
            have hxy1 : (x == wrap64 (-y)) = true := by rw [beq_iff_eq]; exact hxy
            clear hbad hokd hnext hcy hx0 hxy; go_wp2; go_quiet ((go_at_call 63; exact Calls.quiet_of_same (hcall _)))
            go_wp2; go_ret; exact ⟨au hb.out.symm, _, by rw [hw0.out]; exact World.drewN_drewN ..⟩
          · have hs := ae (hnext (hokd.2 ⟨hx0, hin'.out.1, hin'.out.2, fun _ => hxy⟩))
            have hxy1 : (x == wrap64 (-y)) = false := by rw [beq_eq_false_iff_ne]; exact hxy
            clear hbad hokd hnext hcy hx0 hxy; go_wp2; go_quiet ((go_at_call 63; exact Calls.quiet_of_same (hcall _)))
            go_wp2; go_roundw
            case rel => exact ⟨k' + 1 + 1, _, by omega, by go_num, by rw [hw0.out]; exact World.drewN_drewN .., hs.out⟩
            case measure => simp [intOf]; omega
        · have hk1 : decide (0 < (k : Int)) = false := by simp; omega
          have hs := ae (hnext (hokd.2 ⟨hx0, hin'.out.1, hin'.out.2, fun h => absurd h hk0⟩))
          clear hbad hokd hnext hcy hx0; go_wp2; go_quiet ((go_at_call 63; exact Calls.quiet_of_same (hcall _)))
          go_wp2; go_roundw
          case rel => exact ⟨k + 1, _, by omega, by go_num, by rw [hw0.out]; exact World.drewN_drewN .., hs.out⟩
          case measure => simp [intOf]; omega
      · have hcall : ∀ w', Calls Tryz.prog 63 #[.int .i64 x, .int .i64 (wrap64 (-r)), .int .i64 r] w' fun e w'' => e = .returned (.bool false) ∧ w'' = w' :=
         fun w' => (D5 x (ng r) r w' (by omega)).mono (fun e w'' h => ⟨h.1, h.2.symm⟩)
        have hb := ae (hbad (by rw [hokd]; exact fun h => hin ⟨h.2.1, h.2.2.1⟩))
        clear hbad hokd hnext hcy hx0 hin; go_wp2; go_quiet ((go_at_call 63; exact Calls.quiet_of_same (hcall _)))
        go_wp2; go_ret; exact ⟨au hb.out.symm, _, by rw [hw0.out]; exact World.drewN_drewN ..⟩
  · obtain rfl : k = n := by omega
    have hend := LK (rank := r) (zs := zs) (by rw [← hn.out]; exact heq)
    rw [← hn.out] at hend; clear heq; by_cases hin : 1 ≤ r ∧ r ≤ 3
    · have hcall : ∀ w', Calls Tryz.prog 63 #[.int .i64 r, .int .i64 1, .int .i64 3] w' fun e w'' => e = .returned (.bool true) ∧ w' = w'' :=
       fun w' => Bd r 1 3 w' hin.1 hin.2
      by_cases h24 : k ≤ 24
      · have h24i : (k : Int) ≤ 24 := by omega
        have hb : jU r zs = true := by rw [hend]; simp; omega
        replace hb := ae hb; clear hend hin; go_wp2_with fail; refine (hcall _).mono ?_; rintro e w3 ⟨rfl, rfl⟩; go_wp2; go_ret; exact ⟨au hb.out.symm, _, rfl⟩
      · have h24i : ¬ (k : Int) ≤ 24 := by omega
        have hb : jU r zs = false := by rw [hend]; simp; omega
        replace hb := ae hb; clear hend hin; go_wp2_with fail; refine (hcall _).mono ?_; rintro e w3 ⟨rfl, rfl⟩; go_wp2; go_ret; exact ⟨au (by rw [hb.out, decide_eq_false_iff_not]; omega), _, rfl⟩
    · have hcall : ∀ w', Calls Tryz.prog 63 #[.int .i64 r, .int .i64 1, .int .i64 3] w' fun e w'' => e = .returned (.bool false) ∧ w' = w'' :=
       fun w' => D5 r 1 3 w' (by omega)
      have hb : jU r zs = false := by rw [hend]; simp; omega
      replace hb := ae hb; clear hend hin; go_wp2_with fail; refine (hcall _).mono ?_; rintro e w3 ⟨rfl, rfl⟩; go_wp2; go_ret; exact ⟨au hb.out.symm, _, rfl⟩
end Go.Proofs.YtgnomlcjikfdhaaGreat
