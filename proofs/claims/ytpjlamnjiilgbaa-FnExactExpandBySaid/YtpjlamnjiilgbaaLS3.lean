/- Slices of slices of ints that a call makes: a slice is put behind (append), and what such a row is for the laws. -/
import Derived.Test.YtpjlamnjiilgbaaLS2
import Derived.Laws.AppendOwn
import Derived.Laws.AppendOwnNone
import Derived.Maps.AppendAt
namespace Go.Proofs.Ytpjlamnjiilgbaa
open Go.RowKit
set_option linter.unusedVariables false
set_option linter.unusedSimpArgs false

/-- v is a row of the call's own whose elements are the slices us. -/
abbrev OwnsW (w : World) (base : Nat) (v : Value) (us : List Value) : Prop := w.ownsRow base 23 1 v us.length us
theorem infoSl : (Try.prog.info? 23).map (fun i => (i.zero, i.size, i.bytes)) = some (some (.slice none 0 0), 1, 24) := by kernel_rfl
theorem OwnsW.nil (w : World) (base : Nat) : OwnsW w base (.slice none 0 0) [] := World.ownsRow_nil _ _ _ _
theorem OwnsW.lit (w : World) : OwnsW (w.alloc (.cells #[] 23)) w.heap.size (.slice (some ⟨w.heap.size, 0, none⟩) 0 0) [] := World.ownsRow_lit w #[] 0 (Nat.le_refl _) (Nat.zero_le _) rfl
theorem OwnsW.other {w w' : World} {base : Nat} {v : Value} {us : List Value} (h : OwnsW w base v us) (hb : ∀ k, v.ownBlock = some k → w'.heap[k]? = w.heap[k]?) : OwnsW w' base v us := by
  obtain ⟨h1, h2 | ⟨g, cap, cur, rfl, hg, hh, hr⟩⟩ := h
  · exact ⟨h1, .inl h2⟩
  · exact ⟨h1, .inr ⟨g, cap, cur, rfl, hg, (hb g rfl).trans hh, hr⟩⟩
theorem OwnsW.form {w : World} {base : Nat} {v : Value} {us : List Value} (h : OwnsW w base v us) : ∃ a cap, v = .slice a us.length cap := by
  obtain ⟨_, ⟨h1, h2⟩ | ⟨g, cap, cur, h1, _⟩⟩ := h
  · exact ⟨none, 0, by rw [h1, h2]⟩
  · exact ⟨_, _, h1⟩
/-- out = append(out, u), u a slice; and where the new row lies. -/
theorem wpList_pushW_at {w0 : World} {ops : Array Oper} {rest : List Oper} {o : Oper} {a : Act} {Q : Exit → Act → World → Prop} (hgd : o.guard = none) (s x : Operand)
    (ho : o.op = .call { callee := .builtin .append, args := #[s, x], argTypes := #[22, 22] }) (base : Nat) (v : Value) (us : List Value) (ua : Option Addr) (un uc : Nat)
    (hs : a.eval s = v) (hx : a.eval x = .slice (some ⟨w0.heap.size, 0, none⟩) 1 1) (hown : OwnsW w0 base v us) (hl : us.length ≤ 1000000000) (hbase : base ≤ w0.heap.size)
    (h : ∀ v' w', OwnsW w' base v' (us ++ [.slice ua un uc]) → (w0.alloc (.cells #[.slice ua un uc] 23)).grownBy w' v.ownBlock → (v'.ownBlock = v.ownBlock ∨ v'.ownBlock = some (w0.heap.size + 1)) → wpList Try.prog ops Q rest (a.put o.dst v') w') :
    wpList Try.prog ops Q (o :: rest) a (w0.alloc (.cells #[.slice ua un uc] 23)) := by
  obtain ⟨i0, hi, hz0, hz1, hz2⟩ := info_parts infoSl
  refine wpList_append_own_at _ hgd s x 22 ho base 23 i0 (.slice none 0 0) 1 24 Try.underlying22 hi hz0 hz1 hz2 rfl (by decide) v us.length us hs (World.ownsRow.alloc hown _) ⟨w0.heap.size, 0, none⟩ 1 1 [.slice ua un uc] hx rfl (cell_one_new _ _ _) ?_ ?_ ?_ ?_ ?_
  · intro u hu
    simp at hu
    subst hu; rfl
  · unfold maxLen; omega
  · omega
  · simp; omega
  · intro v' w' ho' hg _ hw
    exact h v' w' (by unfold OwnsW; simpa using ho') hg (by simpa using hw)
/-- A row that a call made, its elements made by the call too, each in a block of its own: what the laws mark and hold. -/
theorem OwnsW.rowSS {w : World} {base lo hi : Nat} {v : Value} {us : List Value} {zss : List (List Int)} (h : OwnsW w base v us) (hlo : lo ≤ base) (hhi : w.heap.size ≤ hi) (hlen : us.length = zss.length) (hl : zss.length ≤ 1000000000)
    (hne : ∀ i b, i < us.length → (us.getD i undef).ownBlock = some b → v.ownBlock ≠ some b) (hrow : ∀ i, i < us.length → RowI w lo hi (us.getD i undef) (zss.getD i []))
    (hdis : ∀ i j b, i < us.length → j < us.length → i ≠ j → (us.getD i undef).ownBlock = some b → (us.getD j undef).ownBlock ≠ some b) : RowSS w lo hi v us zss := by
  have hlt := World.ownsRow.lt h
  refine ⟨hlen, hl, ?_, fun i hi => hrow i (by omega), fun i j b h1 h2 => hdis i j b (by omega) (by omega)⟩
  obtain ⟨h1, ⟨rfl, h2⟩ | ⟨g, cap, cur, rfl, hg, hh, hc1, hc2, hc3, hc4⟩⟩ := h
  · exact .inl ⟨rfl, List.length_eq_zero_iff.1 (by omega)⟩
  · refine .inr ⟨g, 0, cap, cur, by rw [hlen], by omega, by have := (hlt g rfl).2; omega, by omega, hh, fun i hi => ?_, fun i b hi hb he => hne i b (by omega) hb (by rw [he]; rfl)⟩
    have hi' : i < us.length := by omega
    have : (cur.toList.take (us.length * 1))[i]? = us[i]? := by rw [hc4]
    rw [List.getElem?_take, if_pos (by omega), List.getElem?_eq_getElem hi'] at this
    rw [Nat.zero_add, ← Array.getElem?_toList, this, List.getD_eq_getElem?_getD, List.getElem?_eq_getElem hi']; rfl
/-- Such a row can be read. -/
theorem RowSS.read {w : World} {lo hi : Nat} {v : Value} {us : List Value} {zss : List (List Int)} (h : RowSS w lo hi v us zss) : ReadSS hi w v zss := by
  obtain ⟨h1, h2, h3, h4, h5⟩ := h
  rcases h3 with ⟨rfl, rfl⟩ | ⟨g, off, cap, cur, rfl, q1, q2, q3, q4, q5, q6⟩
  · exact ⟨by simp, none, 0, rfl, ⟨fun _ => rfl, Nat.le_refl _⟩, .inl rfl⟩
  · refine ⟨by omega, _, _, rfl, ⟨(fun e => by cases e), q3⟩, .inr ⟨g, off, rfl, q2, fun i hi => ⟨us.getD i undef, by rw [cell_of_heap q4]; exact q5 i hi, (h4 i hi).read⟩⟩⟩
end Go.Proofs.Ytpjlamnjiilgbaa
