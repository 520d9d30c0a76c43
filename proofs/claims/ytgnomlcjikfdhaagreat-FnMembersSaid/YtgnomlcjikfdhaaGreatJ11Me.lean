import Derived.Laws.AppendOwn
import Derived.Laws.AppendOwnNone
import Derived.Maps.AppendAt
import Derived.Deep.Slices
import Derived.ChangeSlices
import Derived.Test.YtgnomlcjikfdhaaGreatJ1Me
import Derived.Test.YtgnomlcjikfdhaaGreatJ0Me
namespace Go.Proofs.YtgnomlcjikfdhaaGreat
open Go.RowKit
set_option linter.unusedVariables false
set_option linter.unusedSimpArgs false
def dJ (B : Nat) (w : World) (v : Value) (zss : List (List Int)) : Prop :=
 zss.length ≤ 1000000000000 ∧ ∃ a cap, v = .slice a zss.length cap ∧ ((a = none → cap = 0) ∧ zss.length ≤ cap) ∧ (zss = [] ∨ ∃ b off, a = some ⟨b, off, none⟩ ∧ b < B ∧ ∀ i, i < zss.length → ∃ u, w.cell? ⟨b, off + i, none⟩ = some u ∧ bD B w u (zss.getD i []))
theorem dJ.below {B : Nat} {w w' : World} {v : Value} {zss : List (List Int)} (h : dJ B w v zss) (hb : Below B w w') : dJ B w' v zss := by
 obtain ⟨hl, a, cap, hv, hn, hc⟩ := h; refine ⟨hl, a, cap, hv, hn, hc.imp id ?_⟩; rintro ⟨b, off, ha, hB, hcell⟩; refine ⟨b, off, ha, hB, fun i hi => ?_⟩
 obtain ⟨u, h1, h2⟩ := hcell i hi; exact ⟨u, by rw [hb.cell (p := ⟨b, off + i, none⟩) hB]; exact h1, h2.below hb⟩
theorem dJ.mono {B B' : Nat} {w : World} {v : Value} {zss : List (List Int)} (h : dJ B w v zss) (hB : B ≤ B') : dJ B' w v zss := by
 obtain ⟨hl, a, cap, hv, hn, hc⟩ := h; refine ⟨hl, a, cap, hv, hn, hc.imp id ?_⟩; rintro ⟨b, off, ha, hb, hcell⟩; refine ⟨b, off, ha, by omega, fun i hi => ?_⟩
 obtain ⟨u, h1, h2⟩ := hcell i hi; exact ⟨u, h1, h2.mono hB⟩
theorem dJ.at_ {B : Nat} {w : World} {a : Option Addr} {n cap : Nat} {zss : List (List Int)} (h : dJ B w (.slice a n cap) zss) (i : Nat) (hi : i < zss.length) :
 ∃ b off u, a = some ⟨b, off, none⟩ ∧ b < B ∧ w.cell? ⟨b, off + i, none⟩ = some u ∧ bD B w u (zss.getD i []) := by
 obtain ⟨_, a', cap', hv, _, hr⟩ := h; simp only [Value.slice.injEq] at hv; obtain ⟨rfl, _, rfl⟩ := hv
 rcases hr with h0 | ⟨b, off, ha, hB, hc⟩
 · rw [h0] at hi; simp at hi
 · obtain ⟨u, h1, h2⟩ := hc i hi
   exact ⟨b, off, u, ha, hB, h1, h2⟩
def dP : List Nat → Nat
 | [] => 0
 | n :: ns => n + dP ns
theorem Gs : ∀ (ns : List Nat) (i : Nat), i < ns.length → dP (ns.take (i + 1)) = dP (ns.take i) + ns.getD i 0 := by
 intro ns
 induction ns with
 | nil => intro i hi; simp at hi
 | cons n ns ih =>
  intro i hi
  cases i with
  | zero => simp [dP]
  | succ i =>
   have := ih i (by simpa using hi)
   rw [List.take_succ_cons, dP, this, List.take_succ_cons, dP, List.getD_cons_succ]; omega
theorem Dt : ∀ (ns : List Nat) (i : Nat), dP (ns.take i) ≤ dP ns := by
 intro ns
 induction ns with
 | nil => intro i; simp [dP]
 | cons n ns ih =>
  intro i
  cases i with
  | zero => simp [dP]
  | succ i => have := ih i; simp [dP]; omega
def iq (w : World) (lo hi : Nat) (v : Value) (us : List Value) (zss : List (List Int)) : Prop :=
 us.length = zss.length ∧ zss.length ≤ 1000000000 ∧ ((v = .slice none 0 0 ∧ zss = []) ∨ ∃ g off cap cur, v = .slice (some ⟨g, off, none⟩) zss.length cap ∧ lo ≤ g ∧ g < hi ∧ zss.length ≤ cap ∧ w.heap[g]? = some (.cells cur 33 (0, 0)) ∧
  (∀ i, i < zss.length → cur[off + i]? = some (us.getD i undef)) ∧ (∀ i b, i < zss.length → (us.getD i undef).ownBlock = some b → b ≠ g)) ∧
 (∀ i, i < zss.length → bg w lo hi (us.getD i undef) (zss.getD i [])) ∧
 (∀ i j b, i < zss.length → j < zss.length → i ≠ j → (us.getD i undef).ownBlock = some b → (us.getD j undef).ownBlock ≠ some b)
theorem bg.block {w : World} {lo hi : Nat} {v : Value} {zs : List Int} (h : bg w lo hi v zs) : (v = .slice none 0 0 ∧ zs = []) ∨ ∃ b, v.ownBlock = some b ∧ lo ≤ b ∧ b < hi ∧ bg w b (b + 1) v zs := by
 obtain ⟨hl, h1 | ⟨g, off, cap, cur, rfl, h1, h2, h3⟩⟩ := h
 · exact .inl h1
 · exact .inr ⟨g, rfl, h1, h2, hl, .inr ⟨g, off, cap, cur, rfl, nl _, Nat.lt_succ_self _, h3⟩⟩
theorem iq.put {w w' : World} {lo hi : Nat} {v : Value} {us : List Value} {zss : List (List Int)} (h : iq w lo hi v us zss) (i : Nat) (hi' : i < zss.length) (zs : List Int) {b : Nat} (hb : (us.getD i undef).ownBlock = some b) (hlo : lo ≤ b) (hhi : b < hi) (ho : Only b (b + 1) w w') (hr : bg w' b (b + 1) (us.getD i undef) zs) :
 iq w' lo hi v us (zss.set i zs) := by
 obtain ⟨h1, h2, h3, h4, h5⟩ := h; have hne : ∀ j, j ≠ i → (zss.set i zs).getD j [] = zss.getD j [] := fun j hj => by
  rw [gD, List.getElem?_set_ne (Ne.symm hj), gD]
 have heq : (zss.set i zs).getD i [] = zs := by
  rw [gD, List.getElem?_set_self hi']; rfl
 refine ⟨by rw [List.length_set]; exact h1, by rw [List.length_set]; exact h2, ?_, fun j hj => ?_, fun a c d ha hc => by rw [List.length_set] at ha hc; exact h5 a c d ha hc⟩
 · rcases h3 with ⟨_, h0⟩ | ⟨g, off, cap, cur, rfl, q1, q2, q3, q4, q5, q6⟩
   · rw [h0] at hi'; simp at hi'
   · refine .inr ⟨g, off, cap, cur, by rw [List.length_set], q1, q2, by rw [List.length_set]; exact q3, ?_, fun j hj => q5 j (by rw [List.length_set] at hj; exact hj), fun j c hj => q6 j c (by rw [List.length_set] at hj; exact hj)⟩
     have := q6 i b hi' hb; rw [ho.block g (by omega)]; exact q4
 · rw [List.length_set] at hj
   by_cases hji : j = i
   · subst hji
     rw [heq]; exact hr.wide hlo (by omega)
   · rw [hne j hji]
     rcases (h4 j hj).block with ⟨e1, e2⟩ | ⟨c, e1, e2, e3, e4⟩
     · rw [e1, e2]; exact ⟨by simp, .inl ⟨rfl, rfl⟩⟩
     · have hcb : c ≠ b := fun e => h5 i j b hi' hj (Ne.symm hji) hb (by rw [e1, e])
       exact (e4.only ho (by omega)).wide e2 (by omega)
abbrev bU (w : World) (base : Nat) (v : Value) (us : List Value) : Prop := w.ownsRow base 33 1 v us.length us
theorem GU : (Tryz.prog.info? 33).map (fun i => (i.zero, i.size, i.bytes)) = some (some (.slice none 0 0), 1, 24) := by kernel_rfl
theorem bU.nil (w : World) (base : Nat) : bU w base (.slice none 0 0) [] := World.ownsRow_nil _ _ _ _
theorem bU.lit (w : World) : bU (w.alloc (.cells #[] 33)) w.heap.size (.slice (some ⟨w.heap.size, 0, none⟩) 0 0) [] := World.ownsRow_lit w #[] 0 (nl _) (Nat.zero_le _) rfl
theorem bU.other {w w' : World} {base : Nat} {v : Value} {us : List Value} (h : bU w base v us) (hb : ∀ k, v.ownBlock = some k → w'.heap[k]? = w.heap[k]?) : bU w' base v us := by
 obtain ⟨h1, h2 | ⟨g, cap, cur, rfl, hg, hh, hr⟩⟩ := h
 · exact ⟨h1, .inl h2⟩
 · exact ⟨h1, .inr ⟨g, cap, cur, rfl, hg, (hb g rfl).trans hh, hr⟩⟩
theorem bU.form {w : World} {base : Nat} {v : Value} {us : List Value} (h : bU w base v us) : ∃ a cap, v = .slice a us.length cap := by
 obtain ⟨_, ⟨h1, h2⟩ | ⟨g, cap, cur, h1, _⟩⟩ := h
 · exact ⟨none, 0, by rw [h1, h2]⟩
 · exact ⟨_, _, h1⟩
theorem l7 {w0 : World} {ops : Array Oper} {rest : List Oper} {o : Oper} {a : Act} {Q : Exit → Act → World → Prop} (hgd : o.guard = none) (s x : Operand)
 (ho : o.op = .call { callee := .builtin .append, args := #[s, x], argTypes := #[46, 46] }) (base : Nat) (v : Value) (us : List Value) (ua : Option Addr) (un uc : Nat)
 (hs : a.eval s = v) (hx : a.eval x = .slice (some ⟨w0.heap.size, 0, none⟩) 1 1) (hown : bU w0 base v us) (hl : us.length ≤ 1000000000) (hbase : base ≤ w0.heap.size)
 (h : ∀ v' w', bU w' base v' (us ++ [.slice ua un uc]) → (w0.alloc (.cells #[.slice ua un uc] 33)).grownBy w' v.ownBlock → (v'.ownBlock = v.ownBlock ∨ v'.ownBlock = some (w0.heap.size + 1)) → wpList Tryz.prog ops Q rest (a.put o.dst v') w') :
 wpList Tryz.prog ops Q (o :: rest) a (w0.alloc (.cells #[.slice ua un uc] 33)) := by
 obtain ⟨i0, hi, hz0, hz1, hz2⟩ := info_parts GU; refine wpList_append_own_at _ hgd s x 46 ho base 33 i0 (.slice none 0 0) 1 24 Tryz.underlying46 hi hz0 hz1 hz2 rfl (by decide) v us.length us hs (World.ownsRow.alloc hown _) ⟨w0.heap.size, 0, none⟩ 1 1 [.slice ua un uc] hx rfl (cell_one_new _ _ _) ?_ ?_ ?_ ?_ ?_
 · intro u hu
   simp at hu
   subst hu; rfl
 · unfold maxLen; omega
 · omega
 · simp; omega
 · intro v' w' ho' hg _ hw
   exact h v' w' (by unfold bU; simpa using ho') hg (by simpa using hw)
theorem bU.rowSS {w : World} {base lo hi : Nat} {v : Value} {us : List Value} {zss : List (List Int)} (h : bU w base v us) (hlo : lo ≤ base) (hhi : w.heap.size ≤ hi) (hlen : us.length = zss.length) (hl : zss.length ≤ 1000000000)
 (hne : ∀ i b, i < us.length → (us.getD i undef).ownBlock = some b → v.ownBlock ≠ some b) (hrow : ∀ i, i < us.length → bg w lo hi (us.getD i undef) (zss.getD i []))
 (hdis : ∀ i j b, i < us.length → j < us.length → i ≠ j → (us.getD i undef).ownBlock = some b → (us.getD j undef).ownBlock ≠ some b) : iq w lo hi v us zss := by
 have hlt := World.ownsRow.lt h; refine ⟨hlen, hl, ?_, fun i hi => hrow i (by omega), fun i j b h1 h2 => hdis i j b (by omega) (by omega)⟩
 obtain ⟨h1, ⟨rfl, h2⟩ | ⟨g, cap, cur, rfl, hg, hh, hc1, hc2, hc3, hc4⟩⟩ := h
 · exact .inl ⟨rfl, List.length_eq_zero_iff.1 (by omega)⟩
 · refine .inr ⟨g, 0, cap, cur, by rw [hlen], by omega, by have := (hlt g rfl).2; omega, by omega, hh, fun i hi => ?_, fun i b hi hb he => hne i b (by omega) hb (by rw [he]; rfl)⟩
   have hi' : i < us.length := by omega
   have : (cur.toList.take (us.length * 1))[i]? = us[i]? := by rw [hc4]
   rw [List.getElem?_take, if_pos (by omega), gE hi'] at this
   rw [Nat.zero_add, ← Array.getElem?_toList, this, gD, gE hi']; rfl
theorem iq.read {w : World} {lo hi : Nat} {v : Value} {us : List Value} {zss : List (List Int)} (h : iq w lo hi v us zss) : dJ hi w v zss := by
 obtain ⟨h1, h2, h3, h4, h5⟩ := h
 rcases h3 with ⟨rfl, rfl⟩ | ⟨g, off, cap, cur, rfl, q1, q2, q3, q4, q5, q6⟩
 · exact ⟨by simp, none, 0, rfl, ⟨fun _ => rfl, nl _⟩, .inl rfl⟩
 · refine ⟨by omega, _, _, rfl, ⟨(fun e => by cases e), q3⟩, .inr ⟨g, off, rfl, q2, fun i hi => ⟨us.getD i undef, by rw [cell_of_heap q4]; exact q5 i hi, (h4 i hi).read⟩⟩⟩
def yG (w : World) (zss : List (List Int)) (e : Ending) (w' : World) : Prop :=
 ∃ v us, e = .returned v ∧ iq w' w.heap.size w'.heap.size v us zss ∧ Below w.heap.size w w'
theorem iq.keep {w w' : World} {lo hi : Nat} {v : Value} {us : List Value} {zss : List (List Int)} (h : iq w lo hi v us zss) (hb : ∀ k, lo ≤ k → k < hi → w'.heap[k]? = w.heap[k]?) : iq w' lo hi v us zss := by
 obtain ⟨h1, h2, h3, h4, h5⟩ := h; refine ⟨h1, h2, ?_, fun i hi => (h4 i hi).keep hb, h5⟩
 rcases h3 with e | ⟨g, off, cap, cur, q0, q1, q2, q3, q4, q5⟩
 · exact .inl e
 · exact .inr ⟨g, off, cap, cur, q0, q1, q2, q3, by rw [hb g q1 q2]; exact q4, q5⟩
theorem iq.below {w w' : World} {lo hi B : Nat} {v : Value} {us : List Value} {zss : List (List Int)} (h : iq w lo hi v us zss) (hb : Below B w w') (hB : hi ≤ B) : iq w' lo hi v us zss :=
 h.keep fun k _ hk => hb.block k (by omega)
theorem iq.only {w w' : World} {lo hi lo' hi' : Nat} {v : Value} {us : List Value} {zss : List (List Int)} (h : iq w lo hi v us zss) (ho : Only lo' hi' w w') (hd : hi ≤ lo' ∨ hi' ≤ lo) : iq w' lo hi v us zss :=
 h.keep fun k h1 h2 => ho.block k (by omega)
theorem iq.wide {w : World} {lo hi lo' hi' : Nat} {v : Value} {us : List Value} {zss : List (List Int)} (h : iq w lo hi v us zss) (h1 : lo' ≤ lo) (h2 : hi ≤ hi') : iq w lo' hi' v us zss := by
 obtain ⟨g1, g2, g3, g4, g5⟩ := h; refine ⟨g1, g2, ?_, fun i hi => (g4 i hi).wide h1 h2, g5⟩
 rcases g3 with e | ⟨g, off, cap, cur, q0, q1, q2, q3⟩
 · exact .inl e
 · exact .inr ⟨g, off, cap, cur, q0, by omega, by omega, q3⟩
open Go.RowKit Go.ChangeShapes Go.WideShapes Go.Deep
set_option maxRecDepth 100000
def qK (w : World) (a : Option Addr) (len cap : Nat) (zss : List (List Int)) : Prop :=
 (a = none ∧ len = 0 ∧ cap = 0 ∧ zss = []) ∨ ∃ x, a = some x ∧ len ≤ cap ∧ cap ≤ maxLen ∧ zss.length = len ∧
  ∀ i, i < len → ∃ ai ni ci zs, w.cell? (x.add i) = some (.slice ai ni ci) ∧ pO .i64 w ai ni ci zs ∧ zss.getD i [] = zs.take ni
def AB (w : World) (v : Value) (ns : List Nat) : Prop :=
 ∃ a cap, v = .slice a ns.length cap ∧ ns.length ≤ 9223372036854775807 ∧ (ns = [] ∨ ∃ b off, a = some ⟨b, off, none⟩ ∧ b < w.heap.size ∧ ∀ i, i < ns.length → ∃ ai ci, w.cell? ⟨b, off + i, none⟩ = some (.slice ai (ns.getD i 0) ci) ∧ ns.getD i 0 ≤ 9223372036854775807)
theorem AB.below {w w' : World} {v : Value} {ns : List Nat} (h : AB w v ns) (hb : Below w.heap.size w w') : AB w' v ns := by
 obtain ⟨a, cap, hv, hl, hc⟩ := h; refine ⟨a, cap, hv, hl, hc.imp id ?_⟩; rintro ⟨b, off, ha, hB, hcell⟩; refine ⟨b, off, ha, by have := hb.size; omega, fun i hi => ?_⟩
 obtain ⟨ai, ci, h1, h2⟩ := hcell i hi; exact ⟨ai, ci, by rw [hb.cell (p := ⟨b, off + i, none⟩) hB]; exact h1, h2⟩
theorem BL {k : IntKind} {w : World} {a : Option Addr} {n cap : Nat} {zs : List Int} (h : pO k w a n cap zs) : (zs.take n).length = n := by
 rcases h with ⟨_, rfl, _, rfl⟩ | ⟨x, _, h1, _, h3, _⟩
 · rfl
 · rw [List.length_take]; omega
theorem qK.spot {w : World} {a : Option Addr} {len cap : Nat} {zss : List (List Int)} (h : qK w a len cap zss) (h0 : 0 < len) :
 ∃ b off, a = some ⟨b, off, none⟩ ∧ b < w.heap.size ∧ len ≤ cap ∧ zss.length = len ∧ ∀ i, i < len → ∃ ai ni ci zs, w.cell? ⟨b, off + i, none⟩ = some (.slice ai ni ci) ∧ pO .i64 w ai ni ci zs ∧ zss.getD i [] = zs.take ni := by
 rcases h with ⟨_, h1, _⟩ | ⟨x, rfl, h1, h2, h3, hc⟩
 · omega
 · obtain ⟨_, _, _, _, c0, _⟩ := hc 0 h0
   obtain ⟨b, off, spot⟩ := x; have hspot : spot = none := by simpa [Addr.add] using World.cell?_spot c0
   subst hspot; refine ⟨b, off, rfl, ?_, h1, h3, fun i hi => ?_⟩
   · have c0' := c0
     simp [Addr.add] at c0'
     rcases Nat.lt_or_ge b w.heap.size with h1 | h1
     · exact h1
     · unfold World.cell? at c0'
       rw [show w.heap[(⟨b, off, none⟩ : Addr).block]? = none from Array.getElem?_eq_none h1] at c0'
       cases c0'
   · obtain ⟨ai, ni, ci, zs, q1, q2, q3⟩ := hc i hi
     refine ⟨ai, ni, ci, zs, ?_, q2, q3⟩; by_cases hi0 : i = 0
     · subst hi0; simpa [Addr.add] using q1
     · simpa [Addr.add, hi0] using q1
theorem qK.len {w : World} {a : Option Addr} {len cap : Nat} {zss : List (List Int)} (h : qK w a len cap zss) : zss.length = len ∧ len ≤ 9223372036854775807 := by
 rcases h with ⟨_, rfl, _, rfl⟩ | ⟨x, _, h1, h2, h3, _⟩
 · exact ⟨rfl, by omega⟩
 · exact ⟨h3, by unfold maxLen at h2; omega⟩
theorem kw (zss : List (List Int)) (i : Nat) : (zss.map List.length).getD i 0 = (zss.getD i []).length := by
 rw [gD, List.getElem?_map, gD]
 cases zss[i]? <;> rfl
theorem pV : ∀ (ns : List Nat) (i : Nat), i < ns.length → ns.getD i 0 ≤ dP ns := by
 intro ns
 induction ns with
 | nil => intro i hi; simp at hi
 | cons n ns ih =>
  intro i hi
  cases i with
  | zero => simp [dP]
  | succ i => have := ih i (by simpa using hi); simp only [List.getD_cons_succ, dP]; omega
theorem qK.read {w : World} {a : Option Addr} {len cap : Nat} {zss : List (List Int)} (h : qK w a len cap zss) (hs : zss.length + dP (zss.map List.length) ≤ 1048576) :
 dJ w.heap.size w (.slice a len cap) zss ∧ (∀ zs ∈ zss, bi zs) ∧ zss.length = len := by
 obtain ⟨hl, hm⟩ := h.len
 rcases Nat.eq_zero_or_pos len with h0 | h0
 · have hz : zss = [] := List.length_eq_zero_iff.1 (by omega)
   subst hz h0; refine ⟨⟨by simp, a, cap, rfl, ?_, .inl rfl⟩, (fun zs hzs => (List.not_mem_nil hzs).elim), rfl⟩
   rcases h with ⟨rfl, _, rfl, _⟩ | ⟨x, rfl, h1, _⟩
   · exact ⟨fun _ => rfl, nl _⟩
   · exact ⟨(fun e => by cases e), Nat.zero_le _⟩
 · obtain ⟨b, off, rfl, hb, hcap, _, hc⟩ := h.spot h0
   have each : ∀ i, i < zss.length → ∃ u, w.cell? ⟨b, off + i, none⟩ = some u ∧ bD w.heap.size w u (zss.getD i []) ∧ bi (zss.getD i []) := fun i hi => by
    obtain ⟨ai, ni, ci, zs, q1, q2, q3⟩ := hc i (by omega)
    have hn : ni ≤ 1048576 := by
     have h1 := pV (zss.map List.length) i (by rw [List.length_map]; omega)
     rw [kw, q3, BL q2] at h1; omega
    obtain ⟨r1, r2, _⟩ := GK q2 hn; exact ⟨_, q1, by rw [q3]; exact r1, by rw [q3]; exact r2⟩
   refine ⟨⟨by omega, _, cap, by rw [hl], ⟨(fun e => by cases e), by omega⟩, .inr ⟨b, off, rfl, hb, fun i hi => ?_⟩⟩, fun zs hzs => ?_, hl⟩
   · obtain ⟨u, h1, h2, _⟩ := each i hi
     exact ⟨u, h1, h2⟩
   · obtain ⟨i, hi, rfl⟩ := List.getElem_of_mem hzs
     obtain ⟨_, _, _, h3⟩ := each i hi; rwa [gD, gE hi] at h3
section
variable {H : Type} {enc : TypeId × Value → H} {W : World} {base : Nat} {v : Value} {d : DataW H} {p : List MemPlace}
end
def pK (w : World) (lo : Nat) (us : List Value) (zss : List (List Int)) : Prop :=
 (∀ i, i < us.length → bg w lo w.heap.size (us.getD i undef) (zss.getD i [])) ∧ us.Pairwise (fun p q => ∀ b c, p.ownBlock = some b → q.ownBlock = some c → b < c)
theorem pK.keep {w w' : World} {lo : Nat} {us : List Value} {zss : List (List Int)} (h : pK w lo us zss) (hs : w.heap.size ≤ w'.heap.size) (hb : ∀ b, lo ≤ b → b < w.heap.size → w'.heap[b]? = w.heap[b]?) : pK w' lo us zss :=
 ⟨fun i hi => ((h.1 i hi).keep hb).wide (nl _) hs, h.2⟩
theorem pK.snoc {w : World} {lo s : Nat} {us : List Value} {zss : List (List Int)} {u : Value} (h : pK w lo us zss) (hus : ∀ x ∈ us, ∀ b, x.ownBlock = some b → b < s) (hlo : lo ≤ s) (hu : bg w s w.heap.size u (zss.getD us.length [])) : pK w lo (us ++ [u]) zss := by
 refine ⟨fun i hi => ?_, ?_⟩
 · rw [List.length_append, List.length_singleton] at hi
   rcases Nat.lt_or_ge i us.length with h1 | h1
   · rw [gD, List.getElem?_append_left h1, ← gD]; exact h.1 i h1
   · obtain rfl : i = us.length := by omega
     rw [gD, List.getElem?_append_right (nl _), Nat.sub_self]; exact hu.wide hlo (nl _)
 · rw [List.pairwise_append]
   refine ⟨h.2, List.pairwise_singleton _ _, fun p hp q hq b c hb hc => ?_⟩
   rw [List.mem_singleton] at hq; subst hq; have := hus p hp b hb
   rcases hu.block with ⟨e1, _⟩ | ⟨d, e1, e2, e3, _⟩
   · rw [e1] at hc; cases hc
   · rw [e1] at hc; cases hc; omega
theorem pK.lt {w : World} {lo : Nat} {us : List Value} {zss : List (List Int)} (h : pK w lo us zss) : ∀ x ∈ us, ∀ b, x.ownBlock = some b → lo ≤ b ∧ b < w.heap.size := by
 intro x hx b hb; obtain ⟨i, hi, rfl⟩ := List.getElem_of_mem hx; have := h.1 i hi; rw [gD, gE hi] at this
 rcases this.block with ⟨e1, _⟩ | ⟨d, e1, e2, e3, _⟩
 · simp only [Option.getD_some] at e1; rw [e1] at hb; cases hb
 · simp only [Option.getD_some] at e1; rw [e1] at hb; cases hb; exact ⟨e2, e3⟩
end Go.Proofs.YtgnomlcjikfdhaaGreat
