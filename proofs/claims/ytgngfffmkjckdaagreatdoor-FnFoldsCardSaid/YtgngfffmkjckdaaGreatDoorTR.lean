/- Folding: mathematics: folding ends in a folded graph, takes a vertex a fold, and can be replayed. -/
import Derived.Test.YtgngfffmkjckdaaGreatDoorJX
import Derived.Test.YtgngfffmkjckdaaGreatDoorQD
namespace Go.Proofs.YtgngfffmkjckdaaGreatDoor
open Go.RowKit
set_option linter.unusedVariables false
set_option linter.unusedSimpArgs false

theorem row_has {es : List Ed} {i : Nat} {f : tupF} : ∀ d j, j < d → f ∈ pairF (es.getD i e0) (es.getD (i + 1 + j) e0) → f ∈ rowF es i d := by
  intro d
  induction d with
  | zero => intro j h; omega
  | succ d ih =>
    intro j hj hf
    rw [rowF, List.mem_append]
    by_cases c : j = d
    · subst c; exact .inr hf
    · exact .inl (ih j (by omega) hf)
theorem all_has {es : List Ed} {i j : Nat} {f : tupF} (hij : i < j) (hj : j < es.length) (hf : f ∈ pairF (es.getD i e0) (es.getD j e0)) : ∀ n, i < n → f ∈ allF es n := by
  intro n
  induction n with
  | zero => intro h; omega
  | succ n ih =>
    intro h
    rw [allF, List.mem_append]
    by_cases c : i = n
    · subst c
      exact .inr (row_has _ (j - (i + 1)) (by omega) (by rw [show i + 1 + (j - (i + 1)) = j by omega]; exact hf))
    · exact .inl (ih (by omega))
theorem folds_fo {es : List Ed} : (foldsF es).length = 0 ↔ foldB es es.length = true := by
  rw [List.length_eq_zero_iff]
  constructor
  · intro h
    rw [foldB_iff]
    intro i hi k hk hm
    have key : ∀ f, f ∈ pairF (es.getD k e0) (es.getD i e0) → False := fun f hf => by
      have : f ∈ foldsF es := all_has hk hi hf es.length (by omega)
      rw [h] at this; cases this
    unfold Meets at hm
    unfold pairF at key
    rcases hm.2 with h1 | h1
    · exact key _ (List.mem_append_left _ (by rw [if_pos ⟨hm.1.symm, h1.symm⟩]; exact List.mem_singleton.2 rfl))
    · exact key _ (List.mem_append_right _ (by rw [if_pos ⟨hm.1.symm, h1.symm⟩]; exact List.mem_singleton.2 rfl))
  · intro h
    rw [List.eq_nil_iff_forall_not_mem]
    intro f hf
    obtain ⟨i, j, hij, hj, hp⟩ := all_mem es.length (Nat.le_refl _) hf
    have hn := foldB_iff.1 h j hj i hij
    unfold pairF at hp
    unfold Meets at hn
    rcases List.mem_append.1 hp with h1 | h1
    · split at h1
      · rename_i c; exact hn ⟨c.1.symm, .inl c.2.symm⟩
      · cases h1
    · split at h1
      · rename_i c; exact hn ⟨c.1.symm, .inr c.2.symm⟩
      · cases h1
theorem or_last {r s : Int} {es : List Ed} {cs : List Int} (hg : isGr r s es = true) : (foldsF (orN r s es cs 40).es).length = 0 := by
  by_cases h : ∃ j, j < 40 ∧ (foldsF (orN r s es cs j).es).length = 0
  · obtain ⟨j, hj, h0⟩ := h
    have := orN_stop r s es cs h0 (40 - j)
    rw [show j + (40 - j) = 40 by omega] at this
    rw [this]; exact h0
  · exfalso
    have := or_end (i := 40) (cs := cs) hg (fun j hj h0 => h ⟨j, hj, h0⟩)
    omega
/-- Folding on ends in a folded graph, whatever fold is taken. -/
theorem fo_fo {r s : Int} {es : List Ed} (cs : List Int) (hg : isGr r s es = true) : isFo r (foS r s es cs) (foE r s es cs) = true := by
  unfold foS foE
  rw [if_pos hg, if_pos hg]
  unfold isFo
  rw [or_gr hg 40, folds_fo.1 (or_last hg)]; rfl
theorem fa_folded {r s : Int} {es : List Ed} (hg : isGr r s es = true) : isFo r (faS r s es) (faE r s es) = true := by
  obtain ⟨h1, h2, _⟩ := fa_fo r s es
  rw [h1, h2]; exact fo_fo [] hg
theorem or_id {r s : Int} {es : List Ed} {cs : List Int} (hf : foldB es es.length = true) : orN r s es cs 40 = ⟨s, es, []⟩ := by
  have h0 : (foldsF (orN r s es cs 0).es).length = 0 := folds_fo.2 hf
  have := orN_stop r s es cs h0 40
  rw [Nat.zero_add] at this
  rw [this]; rfl
theorem fa_id {r s : Int} {es : List Ed} (hf : isFo r s es = true) : faS r s es = s ∧ faE r s es = es ∧ faL r s es = [] := by
  obtain ⟨h1, h2, h3⟩ := fa_fo r s es
  obtain ⟨hg, hb⟩ : isGr r s es = true ∧ foldB es es.length = true := by unfold isFo at hf; rw [Bool.and_eq_true] at hf; exact hf
  rw [h1, h2, h3]
  unfold foS foE foL
  rw [if_pos hg, if_pos hg, if_pos hg, or_id hb]
  exact ⟨rfl, rfl, rfl⟩
/-- A fold takes one vertex. -/
theorem fo_size {r s : Int} {es : List Ed} (cs : List Int) (hg : isGr r s es = true) : foS r s es cs = s - ((foL r s es cs).length : Int) := by
  by_cases h : ∃ j, (foldsF (orN r s es cs j).es).length = 0
  · classical
    obtain ⟨j, hj, hm⟩ : ∃ j, (foldsF (orN r s es cs j).es).length = 0 ∧ ∀ i, i < j → (foldsF (orN r s es cs i).es).length ≠ 0 := by
      obtain ⟨n, hn⟩ := h
      induction n using Nat.strongRecOn with
      | _ n ih =>
        by_cases c : ∃ i, i < n ∧ (foldsF (orN r s es cs i).es).length = 0
        · obtain ⟨i, hi, h0⟩ := c; exact ih i hi h0
        · exact ⟨n, hn, fun i hi h0 => c ⟨i, hi, h0⟩⟩
    obtain ⟨h1, _, h3⟩ := fo_stop hg hm hj
    obtain ⟨h4, h5⟩ := or_count hg j hm
    rw [h1, h3, h4, h5]
  · exact absurd ⟨40, or_last hg⟩ h
theorem fa_size {r s : Int} {es : List Ed} (hg : isGr r s es = true) : faS r s es = s - ((faL r s es).length : Int) := by
  obtain ⟨h1, _, h3⟩ := fa_fo r s es
  rw [h1, h3]; exact fo_size [] hg
theorem st_gr {r s : Int} {es : List Ed} (hg : isGr r s es = true) (i : Nat) : isGr r (stN r s es i).s (stN r s es i).es = true := by
  rw [fa_or hg i]; exact or_gr hg i
theorem getD_mid {α : Type} (l : List α) (x : α) (t : List α) (d : α) : (l ++ (x :: t)).getD l.length d = x := by
  rw [List.getD_eq_getElem?_getD, List.getElem?_append_right (Nat.le_refl _)]
  simp
/-- The folds of folding on can be replayed. -/
theorem st_replay {r s : Int} {es : List Ed} (hg : isGr r s es = true) : ∀ i t, reSt r s es ((stN r s es i).l ++ t) (stN r s es i).l.length = ((stN r s es i).s, (stN r s es i).es) ∧ reAll r s es ((stN r s es i).l ++ t) (stN r s es i).l.length = true := by
  intro i
  induction i with
  | zero => intro t; exact ⟨rfl, rfl⟩
  | succ i ih =>
    intro t
    by_cases hb : ffB r (stN r s es i).s (stN r s es i).es = true
    · have he : stN r s es (i + 1) = ⟨onS r (stN r s es i).s (stN r s es i).es, onE r (stN r s es i).s (stN r s es i).es, (stN r s es i).l ++ [ffF r (stN r s es i).s (stN r s es i).es]⟩ := by
        rw [stN, if_pos hb]
      have hgi := st_gr hg i
      rw [he]
      generalize hx : stN r s es i = x at hb hgi ih he ⊢
      have hne : (foldsF x.es).length ≠ 0 := by
        unfold ffB at hb
        rw [Bool.and_eq_true, decide_eq_true_eq] at hb
        exact hb.2
      have hmem : ffF r x.s x.es ∈ foldsF x.es := by
        unfold ffF
        rw [if_pos hb]
        exact getF_mem (by omega)
      have hok := folds_ok hgi hmem
      obtain ⟨h1, h2⟩ := ih (ffF r x.s x.es :: t)
      have hl : (x.l ++ [ffF r x.s x.es]) ++ t = x.l ++ (ffF r x.s x.es :: t) := by rw [List.append_assoc]; rfl
      have hlen : (x.l ++ [ffF r x.s x.es]).length = x.l.length + 1 := by rw [List.length_append]; rfl
      dsimp only
      rw [hl, hlen, reSt, reAll, h1, h2, Bool.true_and, getD_mid]
      unfold reOk
      rw [h1, getD_mid, hok, decide_eq_true hmem]
      unfold onS onE
      rw [if_pos hb, if_pos hb]
      exact ⟨rfl, rfl⟩
    · have he : stN r s es (i + 1) = stN r s es i := by rw [stN, if_neg hb]
      rw [he]
      exact ih t
theorem fa_replay {r s : Int} {es : List Ed} (hg : isGr r s es = true) : reB r s es (faL r s es) = true ∧ reS r s es (faL r s es) = faS r s es ∧ reE r s es (faL r s es) = faE r s es := by
  have key := st_replay hg 40 []
  unfold faL faS faE
  generalize stN r s es 40 = x at key ⊢
  obtain ⟨h1, h2⟩ := key
  rw [List.append_nil] at h1 h2
  unfold reB reS reE
  rw [if_pos h2, if_pos h2, hg, h2, h1]
  exact ⟨rfl, rfl, rfl⟩
theorem or_in {r s : Int} {es : List Ed} {cs : List Int} (hg : isGr r s es = true) : ∀ i, ∀ f ∈ (orN r s es cs i).l, 0 ≤ f.1 ∧ f.1 < f.2 ∧ f.2 ≤ 40 := by
  intro i
  induction i with
  | zero => intro f h; cases h
  | succ i ih =>
    by_cases h0 : (foldsF (orN r s es cs i).es).length = 0
    · rw [orN, if_pos h0]; exact ih
    · rw [orN, if_neg h0]
      intro f hf
      rcases List.mem_append.1 hf with hf | hf
      · exact ih f hf
      · rw [List.mem_singleton] at hf
        have hgi := or_gr (cs := cs) hg i
        have hmem : f ∈ foldsF (orN r s es cs i).es := by rw [hf]; exact getF_mem (chN_lt (by omega))
        have hok := okM_iff.1 (folds_ok hgi hmem)
        have hl := isGr_lim hgi
        omega
theorem fo_in (r s : Int) (es : List Ed) (cs : List Int) : ∀ f ∈ foL r s es cs, 0 ≤ f.1 ∧ f.1 < f.2 ∧ f.2 ≤ 40 := by
  unfold foL
  split
  · rename_i h; exact or_in h 40
  · intro f h; cases h
theorem fa_in (r s : Int) (es : List Ed) : ∀ f ∈ faL r s es, 0 ≤ f.1 ∧ f.1 < f.2 ∧ f.2 ≤ 40 := by
  rw [(fa_fo r s es).2.2]; exact fo_in r s es []
theorem fa_same {r s : Int} {es : List Ed} (hg : isGr r s es = false) : faS r s es = s ∧ faE r s es = es := by
  obtain ⟨h1, h2, _⟩ := fa_fo r s es
  rw [h1, h2]
  unfold foS foE
  rw [hg]
  exact ⟨rfl, rfl⟩
end Go.Proofs.YtgngfffmkjckdaaGreatDoor
