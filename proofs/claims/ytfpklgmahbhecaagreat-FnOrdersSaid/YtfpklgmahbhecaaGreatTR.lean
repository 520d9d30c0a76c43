import Derived.Test.YtfpklgmahbhecaaGreatJX
import Derived.Test.YtfpklgmahbhecaaGreatQD
namespace Go.Proofs.YtfpklgmahbhecaaGreat
open Go.RowKit
set_option linter.unusedVariables false
set_option linter.unusedSimpArgs false
theorem row_has {es : List Ed} {i : Nat} {f : tupF} : ∀ d j, j < d → f ∈ pairF (es.getD i e0) (es.getD (i + 1 + j) e0) → f ∈ rowF es i d := by
 intro d
 induction d with
 | zero => intro j h; omega
 | succ d ih =>
  intro j hj hf
  rw [rowF, List.mem_append]
  by_cases c : j = d
  · subst c; exact .inr hf
  · exact .inl (ih j (by omega) hf)
theorem all_has {es : List Ed} {i j : Nat} {f : tupF} (hij : i < j) (hj : j < es.length) (hf : f ∈ pairF (es.getD i e0) (es.getD j e0)) : ∀ n, i < n → f ∈ allF es n := by
 intro n
 induction n with
 | zero => intro h; omega
 | succ n ih =>
  intro h
  rw [allF, List.mem_append]
  by_cases c : i = n
  · subst c
    exact .inr (row_has _ (j - (i + 1)) (by omega) (by rw [show i + 1 + (j - (i + 1)) = j by omega]; exact hf))
  · exact .inl (ih (by omega))
theorem folds_fo {es : List Ed} : (foldsF es).length = 0 ↔ foldB es es.length = true := by
 rw [List.length_eq_zero_iff]
 constructor
 · intro h
   rw [foldB_iff]
   intro i hi k hk hm
   have key : ∀ f, f ∈ pairF (es.getD k e0) (es.getD i e0) → False := fun f hf => by
    have : f ∈ foldsF es := all_has hk hi hf es.length (by omega)
    rw [h] at this; cases this
   unfold Meets at hm
   unfold pairF at key
   rcases hm.2 with h1 | h1
   · exact key _ (List.mem_append_left _ (by rw [if_pos ⟨hm.1.symm, h1.symm⟩]; exact List.mem_singleton.2 rfl))
   · exact key _ (List.mem_append_right _ (by rw [if_pos ⟨hm.1.symm, h1.symm⟩]; exact List.mem_singleton.2 rfl))
 · intro h
   rw [List.eq_nil_iff_forall_not_mem]
   intro f hf
   obtain ⟨i, j, hij, hj, hp⟩ := all_mem es.length (Nat.le_refl _) hf
   have hn := foldB_iff.1 h j hj i hij
   unfold pairF at hp
   unfold Meets at hn
   rcases List.mem_append.1 hp with h1 | h1
   · split at h1
     · rename_i c; exact hn ⟨c.1.symm, .inl c.2.symm⟩
     · cases h1
   · split at h1
     · rename_i c; exact hn ⟨c.1.symm, .inr c.2.symm⟩
     · cases h1
theorem or_last {r s : Int} {es : List Ed} {cs : List Int} (hg : isGr r s es = true) : (foldsF (orN r s es cs 40).es).length = 0 := by
 by_cases h : ∃ j, j < 40 ∧ (foldsF (orN r s es cs j).es).length = 0
 · obtain ⟨j, hj, h0⟩ := h
   have := orN_stop r s es cs h0 (40 - j)
   rw [show j + (40 - j) = 40 by omega] at this
   rw [this]; exact h0
 · exfalso
   have := or_end (i := 40) (cs := cs) hg (fun j hj h0 => h ⟨j, hj, h0⟩)
   omega
theorem fo_fo {r s : Int} {es : List Ed} (cs : List Int) (hg : isGr r s es = true) : isFo r (foS r s es cs) (foE r s es cs) = true := by
 unfold foS foE
 rw [if_pos hg, if_pos hg]
 unfold isFo
 rw [or_gr hg 40, folds_fo.1 (or_last hg)]; rfl
theorem fa_folded {r s : Int} {es : List Ed} (hg : isGr r s es = true) : isFo r (faS r s es) (faE r s es) = true := by
 obtain ⟨h1, h2, _⟩ := fa_fo r s es
 rw [h1, h2]; exact fo_fo [] hg
theorem or_id {r s : Int} {es : List Ed} {cs : List Int} (hf : foldB es es.length = true) : orN r s es cs 40 = ⟨s, es, []⟩ := by
 have h0 : (foldsF (orN r s es cs 0).es).length = 0 := folds_fo.2 hf
 have := orN_stop r s es cs h0 40
 rw [Nat.zero_add] at this
 rw [this]; rfl
theorem fa_id {r s : Int} {es : List Ed} (hf : isFo r s es = true) : faS r s es = s ∧ faE r s es = es ∧ faL r s es = [] := by
 obtain ⟨h1, h2, h3⟩ := fa_fo r s es
 obtain ⟨hg, hb⟩ : isGr r s es = true ∧ foldB es es.length = true := by unfold isFo at hf; rw [Bool.and_eq_true] at hf; exact hf
 rw [h1, h2, h3]
 unfold foS foE foL
 rw [if_pos hg, if_pos hg, if_pos hg, or_id hb]
 exact ⟨rfl, rfl, rfl⟩
theorem fo_size {r s : Int} {es : List Ed} (cs : List Int) (hg : isGr r s es = true) : foS r s es cs = s - ((foL r s es cs).length : Int) := by
 by_cases h : ∃ j, (foldsF (orN r s es cs j).es).length = 0
 · classical
   obtain ⟨j, hj, hm⟩ : ∃ j, (foldsF (orN r s es cs j).es).length = 0 ∧ ∀ i, i < j → (foldsF (orN r s es cs i).es).length ≠ 0 := by
    obtain ⟨n, hn⟩ := h
    induction n using Nat.strongRecOn with
    | _ n ih =>
     by_cases c : ∃ i, i < n ∧ (foldsF (orN r s es cs i).es).length = 0
     · obtain ⟨i, hi, h0⟩ := c; exact ih i hi h0
     · exact ⟨n, hn, fun i hi h0 => c ⟨i, hi, h0⟩⟩
   obtain ⟨h1, _, h3⟩ := fo_stop hg hm hj
   obtain ⟨h4, h5⟩ := or_count hg j hm
   rw [h1, h3, h4, h5]
 · exact absurd ⟨40, or_last hg⟩ h
end Go.Proofs.YtfpklgmahbhecaaGreat
