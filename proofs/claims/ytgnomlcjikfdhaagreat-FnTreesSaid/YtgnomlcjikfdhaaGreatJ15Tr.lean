import Derived.Deep.LoopGhost
import Derived.Deep.Cut
import Derived.Test.YtgnomlcjikfdhaaGreatJ13Tr
import Derived.Test.YtgnomlcjikfdhaaGreatJ14Tr
import Derived.Test.YtgnomlcjikfdhaaGreatJ7Tr
namespace Go.Proofs.YtgnomlcjikfdhaaGreat
open Go.RowKit
set_option linter.unusedVariables false
set_option linter.unusedSimpArgs false
def frcB (a b : Ed) : Bool := decide (a.2.1 = b.2.1) && (decide (a.1 = b.1) || decide (a.2.2 = b.2.2))
def frcF (a b : Ed) : tupF := if a.2.1 = b.2.1 then (if a.1 = b.1 then (a.2.2, b.2.2) else if a.2.2 = b.2.2 then (a.1, b.1) else zeroF) else zeroF
theorem frc_pair {a b : Ed} (h : cmpE a b < 0) : pairF a b = if frcB a b = true then [frcF a b] else [] := by
 obtain ⟨f, l, t⟩ := a
 obtain ⟨f', l', t'⟩ := b
 have hlt : f < f' ∨ f = f' ∧ (l < l' ∨ l = l' ∧ t < t') := by
  unfold cmpE at h
  repeat' split at h
  all_goals (simp only at *; omega)
 unfold pairF frcB frcF
 simp only
 by_cases hl : l = l'
 · subst hl
   by_cases hf : f = f'
   · subst hf
     have ht : t < t' := by omega
     have hne : ¬ t = t' := by omega
     simp [hne]
     omega
   · by_cases ht : t = t'
     · subst ht
       have : f < f' := by omega
       simp [hf]
       omega
     · simp [hf, ht]
 · simp [hl]
theorem mergeN_put (k d : Int) (es : List Ed) : ∀ i, i ≤ es.length → mergeN k d es i = putAll [] ((es.take i).map (newE k d)) := by
 intro i
 induction i with
 | zero => intro _; simp [mergeN, putAll]
 | succ i ih =>
  intro hi
  rw [mergeN, ih (by omega), List.take_add_one, List.getElem?_eq_getElem (by omega : i < es.length), Option.toList, List.map_append, List.map_singleton, putAll_snoc, getE_el (by omega)]
theorem mergeE_put (k d : Int) (es : List Ed) : mergeE k d es = putAll [] (es.map (newE k d)) := by
 unfold mergeE
 rw [mergeN_put k d es es.length (Nat.le_refl _), List.take_length]
theorem put_asc (L : List Ed) : AscE (putAll [] L) := (putAll_spec L [] List.Pairwise.nil).1
theorem put_mem {L : List Ed} {x : Ed} : x ∈ putAll [] L ↔ x ∈ L := by
 rw [(putAll_spec L [] List.Pairwise.nil).2 x]
 simp
theorem wrapS {s : Int} (h : 1 ≤ s ∧ s ≤ 40) : wrap64 (s - 1) = s - 1 := by unfold wrap64; omega
theorem gr_edge {r s : Int} {es : List Ed} (h : isGr r s es = true) {e : Ed} (he : e ∈ es) : (0 ≤ e.1 ∧ e.1 < s) ∧ (0 ≤ e.2.2 ∧ e.2.2 < s) ∧ (1 ≤ e.2.1 ∧ e.2.1 ≤ r) := by
 obtain ⟨hp, _, _, h1, h2, _⟩ := isGr_iff.1 h
 obtain ⟨i, hi, rfl⟩ := List.getElem_of_mem he
 have := hp i hi
 unfold placeOk edgeOk at this
 rw [getE_el hi, wrapS (by omega)] at this
 simp only [Bool.and_eq_true, decide_eq_true_eq] at this
 omega
theorem gr_of_asc {r s : Int} {es : List Ed} (ha : AscE es) (hp : ∀ e ∈ es, (0 ≤ e.1 ∧ e.1 < s) ∧ (0 ≤ e.2.2 ∧ e.2.2 < s) ∧ (1 ≤ e.2.1 ∧ e.2.1 ≤ r)) (hr : 1 ≤ r ∧ r ≤ 3) (hs : 1 ≤ s ∧ s ≤ 40) (hl : es.length ≤ 120) : isGr r s es = true := by
 refine isGr_iff.2 ⟨fun i hi => ?_, hr.1, hr.2, hs.1, hs.2, hl⟩
 have h1 := hp _ (List.getElem_mem hi)
 unfold placeOk edgeOk
 rw [getE_el hi, wrapS (by omega)]
 simp only [Bool.and_eq_true, Bool.or_eq_true, decide_eq_true_eq]
 refine ⟨⟨⟨by omega, by omega⟩, by omega⟩, ?_⟩
 by_cases h0 : i = 0
 · exact .inl h0
 · right
   have := (List.pairwise_iff_getElem.1 ha) (i - 1) i (by omega) hi (by omega)
   rw [getE_el (by omega : i - 1 < es.length)]
   exact this
theorem newV_in {k d v s : Int} (hk : 0 ≤ k) (hkd : k < d) (hd : d < s) (hv : 0 ≤ v ∧ v < s) : 0 ≤ newV k d v ∧ newV k d v < s - 1 := by
 unfold newV
 split <;> split <;> omega
theorem merge_gr {r s k d : Int} {es : List Ed} (h : isGr r s es = true) (hk : 0 ≤ k) (hkd : k < d) (hd : d < s) : isGr r (s - 1) (mergeE k d es) = true := by
 obtain ⟨_, h1, h2, h3, h4, h5⟩ := isGr_iff.1 h
 have hl := mergeE_length k d es
 refine gr_of_asc (by rw [mergeE_put]; exact put_asc _) (fun e he => ?_) ⟨h1, h2⟩ (by omega) (by omega)
 rw [mergeE_put, put_mem] at he
 obtain ⟨x, hx, rfl⟩ := List.mem_map.1 he
 obtain ⟨g1, g2, g3⟩ := gr_edge h hx
 exact ⟨newV_in hk hkd hd g1, newV_in hk hkd hd g2, g3⟩
theorem okM_iff {r s : Int} {es : List Ed} {f : tupF} : okM r s es f = true ↔ isGr r s es = true ∧ 0 ≤ f.1 ∧ f.1 < f.2 ∧ f.2 < s := by
 unfold okM
 rw [Bool.and_eq_true, decide_eq_true_eq]
theorem row_mem {es : List Ed} {i : Nat} {f : tupF} : ∀ d, f ∈ rowF es i d → ∃ j, j < d ∧ f ∈ pairF (es.getD i e0) (es.getD (i + 1 + j) e0) := by
 intro d
 induction d with
 | zero => intro h; simp [rowF] at h
 | succ d ih =>
  intro h
  rw [rowF, List.mem_append] at h
  rcases h with h | h
  · obtain ⟨j, hj, hf⟩ := ih h
    exact ⟨j, by omega, hf⟩
  · exact ⟨d, by omega, h⟩
theorem all_mem {es : List Ed} {f : tupF} : ∀ n, n ≤ es.length → f ∈ allF es n → ∃ i j, i < j ∧ j < es.length ∧ f ∈ pairF (es.getD i e0) (es.getD j e0) := by
 intro n
 induction n with
 | zero => intro _ h; simp [allF] at h
 | succ n ih =>
  intro hn h
  rw [allF, List.mem_append] at h
  rcases h with h | h
  · exact ih (by omega) h
  · obtain ⟨j, hj, hf⟩ := row_mem _ h
    exact ⟨n, n + 1 + j, by omega, by omega, hf⟩
theorem asc_lt {es : List Ed} (h : AscE es) {i j : Nat} (hij : i < j) (hj : j < es.length) : cmpE (es.getD i e0) (es.getD j e0) < 0 := by
 rw [getE_el (show i < es.length by omega), getE_el hj]
 exact (List.pairwise_iff_getElem.1 h) i j (by omega) hj hij
theorem folds_ok {r s : Int} {es : List Ed} (h : isGr r s es = true) {f : tupF} (hf : f ∈ foldsF es) : okM r s es f = true := by
 obtain ⟨i, j, hij, hj, hm⟩ := all_mem es.length (Nat.le_refl _) hf
 have hc := asc_lt (asc_of_gr h) hij hj
 rw [frc_pair hc] at hm
 have hi := gr_edge h (List.getElem_mem (show i < es.length by omega))
 have hjj := gr_edge h (List.getElem_mem hj)
 rw [← getE_el] at hi hjj
 generalize es.getD i e0 = a at hm hc hi
 generalize es.getD j e0 = b at hm hc hjj
 by_cases hb : frcB a b = true
 · rw [if_pos hb] at hm
   rw [List.mem_singleton] at hm
   subst hm
   refine okM_iff.2 ⟨h, ?_⟩
   obtain ⟨f, l, t⟩ := a
   obtain ⟨f', l', t'⟩ := b
   have hlt : f < f' ∨ f = f' ∧ (l < l' ∨ l = l' ∧ t < t') := by
    unfold cmpE at hc
    repeat' split at hc
    all_goals (simp only at *; omega)
   unfold frcB at hb
   simp only [Bool.and_eq_true, Bool.or_eq_true, decide_eq_true_eq] at hb
   unfold frcF
   simp only at hi hjj ⊢
   rw [if_pos hb.1]
   by_cases hff : f = f'
   · rw [if_pos hff]
     simp only
     omega
   · rw [if_neg hff, if_pos (by omega)]
     simp only
     omega
 · rw [if_neg hb] at hm
   simp at hm
theorem fold_s {r s : Int} {es : List Ed} {f : tupF} (h : okM r s es f = true) : mrS r s es f = s - 1 := by unfold mrS; rw [if_pos h]
theorem fold_e {r s : Int} {es : List Ed} {f : tupF} (h : okM r s es f = true) : mrE r s es f = mergeE f.1 f.2 es := by unfold mrE; rw [if_pos h]
def BoxE (w : World) (X : Nat) (f l t : Int) : Prop := w.cell? ⟨X, 0, none⟩ = some (.int .i64 f) ∧ w.cell? ⟨X, 1, none⟩ = some (.int .i64 l) ∧ w.cell? ⟨X, 2, none⟩ = some (.int .i64 t)
theorem BoxE.below {w w' : World} {X B : Nat} {f l t : Int} (h : BoxE w X f l t) (hb : Below B w w') (hX : X < B) : BoxE w' X f l t :=
 ⟨below_cell h.1 hb hX, below_cell h.2.1 hb hX, below_cell h.2.2 hb hX⟩
theorem BoxE.grown {w w' : World} {O : Obj} {v : Value} {X : Nat} {f l t : Int} (h : BoxE w X f l t) (hg : (w.alloc O).grownBy w' v.ownBlock) (hX : X < w.heap.size) (hne : v.ownBlock ≠ some X) : BoxE w' X f l t :=
 ⟨grown_cell h.1 hg hX hne, grown_cell h.2.1 hg hX hne, grown_cell h.2.2 hg hX hne⟩
theorem chN_lt {cs : List Int} {i n : Nat} (h : 0 < n) : chN cs i n < n := by
 unfold chN
 split
 · rename_i hh
   have h1 : cs.getD i 0 % (n : Int) < n := Int.emod_lt_of_pos _ (by omega)
   have h2 : 0 ≤ cs.getD i 0 % (n : Int) := Int.emod_nonneg _ (by omega)
   omega
 · exact h
theorem getF_mem {l : List tupF} {i : Nat} (h : i < l.length) : l.getD i zeroF ∈ l := by
 rw [List.getD_eq_getElem?_getD, List.getElem?_eq_getElem h]
 exact List.getElem_mem h
theorem or_step {r s : Int} {es : List Ed} {cs : List Int} {i : Nat} (h : (foldsF (orN r s es cs i).es).length ≠ 0) :
 orN r s es cs (i + 1) = ⟨mrS r (orN r s es cs i).s (orN r s es cs i).es ((foldsF (orN r s es cs i).es).getD (chN cs i (foldsF (orN r s es cs i).es).length) zeroF),
  mrE r (orN r s es cs i).s (orN r s es cs i).es ((foldsF (orN r s es cs i).es).getD (chN cs i (foldsF (orN r s es cs i).es).length) zeroF),
  (orN r s es cs i).l ++ [(foldsF (orN r s es cs i).es).getD (chN cs i (foldsF (orN r s es cs i).es).length) zeroF]⟩ := by
 rw [orN, if_neg h]
theorem or_gr {r s : Int} {es : List Ed} {cs : List Int} (hg : isGr r s es = true) : ∀ i, isGr r (orN r s es cs i).s (orN r s es cs i).es = true := by
 intro i
 induction i with
 | zero => exact hg
 | succ i ih =>
  by_cases h : (foldsF (orN r s es cs i).es).length = 0
  · rw [orN, if_pos h]; exact ih
  · rw [or_step h]
    have hf := folds_ok ih (getF_mem (chN_lt (cs := cs) (i := i) (Nat.pos_of_ne_zero h)))
    simp only
    rw [fold_s hf, fold_e hf]
    obtain ⟨_, h1, h2, h3⟩ := okM_iff.1 hf
    exact merge_gr ih h1 h2 h3
theorem fa_or {r s : Int} {es : List Ed} (hg : isGr r s es = true) : ∀ i, stN r s es i = orN r s es [] i := by
 intro i
 induction i with
 | zero => rfl
 | succ i ih =>
  have hgi := or_gr (cs := []) hg i
  by_cases h : (foldsF (orN r s es [] i).es).length = 0
  · rw [stN, orN, if_pos h, ih]
    have : ffB r (orN r s es [] i).s (orN r s es [] i).es = false := by unfold ffB; rw [h]; simp
    rw [this]; simp
  · rw [stN, or_step h, ih]
    have hb : ffB r (orN r s es [] i).s (orN r s es [] i).es = true := by unfold ffB; rw [hgi]; simp [h]
    have hc : chN [] i (foldsF (orN r s es [] i).es).length = 0 := by unfold chN; simp
    rw [if_pos hb, hc]
    unfold onS onE ffF
    rw [if_pos hb, if_pos hb, if_pos hb]
theorem fa_fo (r s : Int) (es : List Ed) : faS r s es = foS r s es [] ∧ faE r s es = foE r s es [] ∧ faL r s es = foL r s es [] := by
 unfold faS faE faL foS foE foL
 cases hg : isGr r s es with
 | true =>
  rw [fa_or hg 40]
  exact ⟨by simp, by simp, by simp⟩
 | false =>
  have h0 : ffB r (stN r s es 0).s (stN r s es 0).es = false := by show ffB r s es = false; unfold ffB; rw [hg]; rfl
  have := stN_stop r s es h0 40
  rw [Nat.zero_add] at this
  rw [this]
  exact ⟨by simp [stN], by simp [stN], by simp [stN]⟩
theorem foE_length (r s : Int) (es : List Ed) (cs : List Int) : (foE r s es cs).length ≤ es.length := by
 unfold foE
 split
 · exact (orN_len r s es cs 40).1
 · exact Nat.le_refl _
end Go.Proofs.YtgnomlcjikfdhaaGreat
