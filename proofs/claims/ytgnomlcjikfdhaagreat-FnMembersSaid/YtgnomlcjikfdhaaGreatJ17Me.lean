import Derived.Deep.LoopGhost
import Derived.Deep.Cut
import Derived.Test.YtgnomlcjikfdhaaGreatJ16Me
import Derived.Test.YtgnomlcjikfdhaaGreatJ12Me
import Derived.Test.YtgnomlcjikfdhaaGreatJ5Me
namespace Go.Proofs.YtgnomlcjikfdhaaGreat
open Go.RowKit
set_option linter.unusedVariables false
set_option linter.unusedSimpArgs false
def Es (a b : Ed) : Bool := decide (a.2.1 = b.2.1) && (decide (a.1 = b.1) || decide (a.2.2 = b.2.2))
def JD (a b : Ed) : dB := if a.2.1 = b.2.1 then (if a.1 = b.1 then (a.2.2, b.2.2) else if a.2.2 = b.2.2 then (a.1, b.1) else eH) else eH
theorem JE {a b : Ed} (h : bP a b < 0) : eu a b = if Es a b = true then [JD a b] else [] := by
 obtain ⟨f, l, t⟩ := a; obtain ⟨f', l', t'⟩ := b; have hlt : f < f' ∨ f = f' ∧ (l < l' ∨ l = l' ∧ t < t') := by
  unfold bP at h; repeat' split at h
  all_goals (simp only at *; omega)
 unfold eu Es JD; simp only
 by_cases hl : l = l'
 · subst hl
   by_cases hf : f = f'
   · subst hf
     have ht : t < t' := by omega
     have hne : ¬ t = t' := by omega
     simp [hne]
     omega
   · by_cases ht : t = t'
     · subst ht
       have : f < f' := by omega
       simp [hf]
       omega
     · simp [hf, ht]
 · simp [hl]
theorem Fb (k d : Int) (es : List Ed) : ∀ i, i ≤ es.length → gQ k d es i = dD [] ((es.take i).map (Em k d)) := by
 intro i
 induction i with
 | zero => intro _; simp [gQ, dD]
 | succ i ih =>
  intro hi; rw [gQ, ih (by omega), List.take_add_one, gE (by omega : i < es.length), Option.toList, List.map_append, List.map_singleton, jO, fB (by omega)]
theorem wQ (k d : Int) (es : List Ed) : qM k d es = dD [] (es.map (Em k d)) := by
 unfold qM; rw [Fb k d es es.length (nl _), List.take_length]
theorem KC (L : List Ed) : lD (dD [] L) := (kX L [] List.Pairwise.nil).1
theorem put_mem {L : List Ed} {x : Ed} : x ∈ dD [] L ↔ x ∈ L := by
 rw [(kX L [] List.Pairwise.nil).2 x]; simp
theorem J6 {s : Int} (h : 1 ≤ s ∧ s ≤ 40) : wrap64 (s - 1) = s - 1 := by unfold wrap64; omega
theorem uI {r s : Int} {es : List Ed} (h : aK r s es = true) {e : Ed} (he : e ∈ es) : (0 ≤ e.1 ∧ e.1 < s) ∧ (0 ≤ e.2.2 ∧ e.2.2 < s) ∧ (1 ≤ e.2.1 ∧ e.2.1 ≤ r) := by
 obtain ⟨hp, _, _, h1, h2, _⟩ := dN.1 h; obtain ⟨i, hi, rfl⟩ := List.getElem_of_mem he; have := hp i hi; unfold cZ edgeOk at this; rw [fB hi, J6 (by omega)] at this
 simp only [Bool.and_eq_true, decide_eq_true_eq] at this; omega
theorem F8 {r s : Int} {es : List Ed} (ha : lD es) (hp : ∀ e ∈ es, (0 ≤ e.1 ∧ e.1 < s) ∧ (0 ≤ e.2.2 ∧ e.2.2 < s) ∧ (1 ≤ e.2.1 ∧ e.2.1 ≤ r)) (hr : 1 ≤ r ∧ r ≤ 3) (hs : 1 ≤ s ∧ s ≤ 40) (hl : es.length ≤ 120) : aK r s es = true := by
 refine dN.2 ⟨fun i hi => ?_, hr.1, hr.2, hs.1, hs.2, hl⟩
 have h1 := hp _ (List.getElem_mem hi); unfold cZ edgeOk; rw [fB hi, J6 (by omega)]
 simp only [Bool.and_eq_true, Bool.or_eq_true, decide_eq_true_eq]; refine ⟨⟨⟨by omega, by omega⟩, by omega⟩, ?_⟩
 by_cases h0 : i = 0
 · exact .inl h0
 · right
   have := (List.pairwise_iff_getElem.1 ha) (i - 1) i (by omega) hi (by omega)
   rw [fB (by omega : i - 1 < es.length)]
   exact this
theorem Ec {k d v s : Int} (hk : 0 ≤ k) (hkd : k < d) (hd : d < s) (hv : 0 ≤ v ∧ v < s) : 0 ≤ iL k d v ∧ iL k d v < s - 1 := by
 unfold iL; split <;> split <;> omega
theorem Iu {r s k d : Int} {es : List Ed} (h : aK r s es = true) (hk : 0 ≤ k) (hkd : k < d) (hd : d < s) : aK r (s - 1) (qM k d es) = true := by
 obtain ⟨_, h1, h2, h3, h4, h5⟩ := dN.1 h; have hl := sO k d es; refine F8 (by rw [wQ]; exact KC _) (fun e he => ?_) ⟨h1, h2⟩ (by omega) (by omega)
 rw [wQ, put_mem] at he; obtain ⟨x, hx, rfl⟩ := List.mem_map.1 he; obtain ⟨g1, g2, g3⟩ := uI h hx; exact ⟨Ec hk hkd hd g1, Ec hk hkd hd g2, g3⟩
theorem qJ {r s : Int} {es : List Ed} {f : dB} : uk r s es f = true ↔ aK r s es = true ∧ 0 ≤ f.1 ∧ f.1 < f.2 ∧ f.2 < s := by
 unfold uk; rw [Bool.and_eq_true, decide_eq_true_eq]
theorem row_mem {es : List Ed} {i : Nat} {f : dB} : ∀ d, f ∈ iF es i d → ∃ j, j < d ∧ f ∈ eu (es.getD i e0) (es.getD (i + 1 + j) e0) := by
 intro d
 induction d with
 | zero => intro h; simp [iF] at h
 | succ d ih =>
  intro h; rw [iF, List.mem_append] at h
  rcases h with h | h
  · obtain ⟨j, hj, hf⟩ := ih h
    exact ⟨j, by omega, hf⟩
  · exact ⟨d, by omega, h⟩
theorem DT {es : List Ed} {f : dB} : ∀ n, n ≤ es.length → f ∈ fO es n → ∃ i j, i < j ∧ j < es.length ∧ f ∈ eu (es.getD i e0) (es.getD j e0) := by
 intro n
 induction n with
 | zero => intro _ h; simp [fO] at h
 | succ n ih =>
  intro hn h; rw [fO, List.mem_append] at h
  rcases h with h | h
  · exact ih (by omega) h
  · obtain ⟨j, hj, hf⟩ := row_mem _ h
    exact ⟨n, n + 1 + j, by omega, by omega, hf⟩
theorem Nq {es : List Ed} (h : lD es) {i j : Nat} (hij : i < j) (hj : j < es.length) : bP (es.getD i e0) (es.getD j e0) < 0 := by
 rw [fB (show i < es.length by omega), fB hj]
 exact (List.pairwise_iff_getElem.1 h) i j (by omega) hj hij
theorem Bi {r s : Int} {es : List Ed} (h : aK r s es = true) {f : dB} (hf : f ∈ bY es) : uk r s es f = true := by
 obtain ⟨i, j, hij, hj, hm⟩ := DT es.length (nl _) hf; have hc := Nq (lH h) hij hj; rw [JE hc] at hm; have hi := uI h (List.getElem_mem (show i < es.length by omega))
 have hjj := uI h (List.getElem_mem hj); rw [← fB] at hi hjj; generalize es.getD i e0 = a at hm hc hi
 generalize es.getD j e0 = b at hm hc hjj
 by_cases hb : Es a b = true
 · rw [if_pos hb] at hm
   rw [List.mem_singleton] at hm; subst hm; refine qJ.2 ⟨h, ?_⟩; obtain ⟨f, l, t⟩ := a; obtain ⟨f', l', t'⟩ := b; have hlt : f < f' ∨ f = f' ∧ (l < l' ∨ l = l' ∧ t < t') := by
    unfold bP at hc; repeat' split at hc
    all_goals (simp only at *; omega)
   unfold Es at hb; simp only [Bool.and_eq_true, Bool.or_eq_true, decide_eq_true_eq] at hb; unfold JD; simp only at hi hjj ⊢
   rw [if_pos hb.1]; by_cases hff : f = f'
   · rw [if_pos hff]
     simp only
     omega
   · rw [if_neg hff, if_pos (by omega)]
     simp only
     omega
 · rw [if_neg hb] at hm
   simp at hm
theorem FW {r s : Int} {es : List Ed} {f : dB} (h : uk r s es f = true) : tK r s es f = s - 1 := by unfold tK; rw [if_pos h]
theorem MZ {r s : Int} {es : List Ed} {f : dB} (h : uk r s es f = true) : sZ r s es f = qM f.1 f.2 es := by unfold sZ; rw [if_pos h]
def yM (w : World) (X : Nat) (f l t : Int) : Prop := w.cell? ⟨X, 0, none⟩ = some (.int .i64 f) ∧ w.cell? ⟨X, 1, none⟩ = some (.int .i64 l) ∧ w.cell? ⟨X, 2, none⟩ = some (.int .i64 t)
theorem yM.below {w w' : World} {X B : Nat} {f l t : Int} (h : yM w X f l t) (hb : Below B w w') (hX : X < B) : yM w' X f l t :=
 ⟨af h.1 hb hX, af h.2.1 hb hX, af h.2.2 hb hX⟩
theorem yM.grown {w w' : World} {O : Obj} {v : Value} {X : Nat} {f l t : Int} (h : yM w X f l t) (hg : (w.alloc O).grownBy w' v.ownBlock) (hX : X < w.heap.size) (hne : v.ownBlock ≠ some X) : yM w' X f l t :=
 ⟨bZ h.1 hg hX hne, bZ h.2.1 hg hX hne, bZ h.2.2 hg hX hne⟩
theorem GL {cs : List Int} {i n : Nat} (h : 0 < n) : uh cs i n < n := by
 unfold uh; split
 · rename_i hh
   have h1 : cs.getD i 0 % (n : Int) < n := Int.emod_lt_of_pos _ (by omega)
   have h2 : 0 ≤ cs.getD i 0 % (n : Int) := Int.emod_nonneg _ (by omega)
   omega
 · exact h
theorem AQ {l : List dB} {i : Nat} (h : i < l.length) : l.getD i eH ∈ l := by
 rw [gD, gE h]; exact List.getElem_mem h
theorem yE {r s : Int} {es : List Ed} {cs : List Int} {i : Nat} (h : (bY (dI r s es cs i).es).length ≠ 0) :
 dI r s es cs (i + 1) = ⟨tK r (dI r s es cs i).s (dI r s es cs i).es ((bY (dI r s es cs i).es).getD (uh cs i (bY (dI r s es cs i).es).length) eH),
  sZ r (dI r s es cs i).s (dI r s es cs i).es ((bY (dI r s es cs i).es).getD (uh cs i (bY (dI r s es cs i).es).length) eH),
  (dI r s es cs i).l ++ [(bY (dI r s es cs i).es).getD (uh cs i (bY (dI r s es cs i).es).length) eH]⟩ := by
 rw [dI, if_neg h]
theorem xx {r s : Int} {es : List Ed} {cs : List Int} (hg : aK r s es = true) : ∀ i, aK r (dI r s es cs i).s (dI r s es cs i).es = true := by
 intro i
 induction i with
 | zero => exact hg
 | succ i ih =>
  by_cases h : (bY (dI r s es cs i).es).length = 0
  · rw [dI, if_pos h]; exact ih
  · rw [yE h]
    have hf := Bi ih (AQ (GL (cs := cs) (i := i) (Nat.pos_of_ne_zero h))); simp only
    rw [FW hf, MZ hf]; obtain ⟨_, h1, h2, h3⟩ := qJ.1 hf; exact Iu ih h1 h2 h3
theorem JQ {r s : Int} {es : List Ed} {cs : List Int} (hg : aK r s es = true) : ∀ i, (∀ j, j < i → (bY (dI r s es cs j).es).length ≠ 0) → (dI r s es cs i).l.length = i ∧ (dI r s es cs i).s = s - i := by
 intro i
 induction i with
 | zero => intro _; exact ⟨rfl, by simp [dI]⟩
 | succ i ih =>
  intro h; obtain ⟨h1, h2⟩ := ih (fun j hj => h j (by omega))
  have h0 := h i (by omega)
  have hf := Bi (xx (cs := cs) hg i) (AQ (GL (cs := cs) (i := i) (Nat.pos_of_ne_zero h0))); rw [yE h0]; simp only [List.length_append, List.length_singleton]; rw [FW hf, h1, h2]; exact ⟨rfl, by push_cast; omega⟩
theorem MJ {r s : Int} {es : List Ed} {cs : List Int} (hg : aK r s es = true) {i : Nat} (h : ∀ j, j < i → (bY (dI r s es cs j).es).length ≠ 0) : i < 40 := by
 have h1 := (JQ hg i h).2; have h2 := xx (cs := cs) hg i; have h3 := (dN.1 h2).2.2.2.1; have h4 := (dN.1 hg).2.2.2.2.1; omega
theorem JW {r s : Int} {es : List Ed} (hg : aK r s es = true) : ∀ i, dZ r s es i = dI r s es [] i := by
 intro i
 induction i with
 | zero => rfl
 | succ i ih =>
  have hgi := xx (cs := []) hg i; by_cases h : (bY (dI r s es [] i).es).length = 0
  · rw [dZ, dI, if_pos h, ih]
    have : kN r (dI r s es [] i).s (dI r s es [] i).es = false := by unfold kN; rw [h]; simp
    rw [this]; simp
  · rw [dZ, yE h, ih]
    have hb : kN r (dI r s es [] i).s (dI r s es [] i).es = true := by unfold kN; rw [hgi]; simp [h]
    have hc : uh [] i (bY (dI r s es [] i).es).length = 0 := by unfold uh; simp
    rw [if_pos hb, hc]; unfold yf onE qR; rw [if_pos hb, if_pos hb, if_pos hb]
theorem Ei (r s : Int) (es : List Ed) : kR r s es = Ho r s es [] ∧ kQ r s es = BM r s es [] ∧ DD r s es = NU r s es [] := by
 unfold kR kQ DD Ho BM NU
 cases hg : aK r s es with
 | true =>
  rw [JW hg 40]; exact ⟨by simp, by simp, by simp⟩
 | false =>
  have h0 : kN r (dZ r s es 0).s (dZ r s es 0).es = false := by show kN r s es = false; unfold kN; rw [hg]; rfl
  have := BC r s es h0 40; rw [Nat.zero_add] at this; rw [this]; exact ⟨by simp [dZ], by simp [dZ], by simp [dZ]⟩
theorem ET (r s : Int) (es : List Ed) (cs : List Int) : (BM r s es cs).length ≤ es.length := by
 unfold BM; split
 · exact (LV r s es cs 40).1
 · exact nl _
end Go.Proofs.YtgnomlcjikfdhaaGreat
