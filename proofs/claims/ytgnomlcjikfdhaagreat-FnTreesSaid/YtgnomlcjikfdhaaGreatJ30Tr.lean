import Derived.Laws.AppendOwn
import Derived.Laws.AppendOwnNone
import Derived.Maps.AppendAt
import Derived.Deep.Slices
import Derived.ChangeSlices
import Derived.Deep.Cut
import Derived.Deep.LoopGhost
import Derived.Deep.RegionHeld3
import Derived.Test.YtgnomlcjikfdhaaGreatJ3Tr
import Derived.Test.YtgnomlcjikfdhaaGreatJ1Tr
import Derived.Test.YtgnomlcjikfdhaaGreatJ27Tr
import Derived.Test.YtgnomlcjikfdhaaGreatJ29Tr
import Derived.Test.YtgnomlcjikfdhaaGreatJ18Tr
import Derived.Test.YtgnomlcjikfdhaaGreatJ5Tr
namespace Go.Proofs.YtgnomlcjikfdhaaGreat
open Go.RowKit
set_option linter.unusedVariables false
set_option linter.unusedSimpArgs false
def ReadSS (B : Nat) (w : World) (v : Value) (zss : List (List Int)) : Prop :=
 zss.length ≤ 1000000000000 ∧ ∃ a cap, v = .slice a zss.length cap ∧ ((a = none → cap = 0) ∧ zss.length ≤ cap) ∧ (zss = [] ∨ ∃ b off, a = some ⟨b, off, none⟩ ∧ b < B ∧ ∀ i, i < zss.length → ∃ u, w.cell? ⟨b, off + i, none⟩ = some u ∧ ReadI B w u (zss.getD i []))
theorem ReadSS.below {B : Nat} {w w' : World} {v : Value} {zss : List (List Int)} (h : ReadSS B w v zss) (hb : Below B w w') : ReadSS B w' v zss := by
 obtain ⟨hl, a, cap, hv, hn, hc⟩ := h
 refine ⟨hl, a, cap, hv, hn, hc.imp id ?_⟩
 rintro ⟨b, off, ha, hB, hcell⟩
 refine ⟨b, off, ha, hB, fun i hi => ?_⟩
 obtain ⟨u, h1, h2⟩ := hcell i hi
 exact ⟨u, by rw [hb.cell (p := ⟨b, off + i, none⟩) hB]; exact h1, h2.below hb⟩
theorem ReadSS.mono {B B' : Nat} {w : World} {v : Value} {zss : List (List Int)} (h : ReadSS B w v zss) (hB : B ≤ B') : ReadSS B' w v zss := by
 obtain ⟨hl, a, cap, hv, hn, hc⟩ := h
 refine ⟨hl, a, cap, hv, hn, hc.imp id ?_⟩
 rintro ⟨b, off, ha, hb, hcell⟩
 refine ⟨b, off, ha, by omega, fun i hi => ?_⟩
 obtain ⟨u, h1, h2⟩ := hcell i hi
 exact ⟨u, h1, h2.mono hB⟩
theorem ReadSS.at_ {B : Nat} {w : World} {a : Option Addr} {n cap : Nat} {zss : List (List Int)} (h : ReadSS B w (.slice a n cap) zss) (i : Nat) (hi : i < zss.length) :
 ∃ b off u, a = some ⟨b, off, none⟩ ∧ b < B ∧ w.cell? ⟨b, off + i, none⟩ = some u ∧ ReadI B w u (zss.getD i []) := by
 obtain ⟨_, a', cap', hv, _, hr⟩ := h
 simp only [Value.slice.injEq] at hv
 obtain ⟨rfl, _, rfl⟩ := hv
 rcases hr with h0 | ⟨b, off, ha, hB, hc⟩
 · rw [h0] at hi; simp at hi
 · obtain ⟨u, h1, h2⟩ := hc i hi
   exact ⟨b, off, u, ha, hB, h1, h2⟩
def sumN : List Nat → Nat
 | [] => 0
 | n :: ns => n + sumN ns
def RowSS (w : World) (lo hi : Nat) (v : Value) (us : List Value) (zss : List (List Int)) : Prop :=
 us.length = zss.length ∧ zss.length ≤ 1000000000 ∧ ((v = .slice none 0 0 ∧ zss = []) ∨ ∃ g off cap cur, v = .slice (some ⟨g, off, none⟩) zss.length cap ∧ lo ≤ g ∧ g < hi ∧ zss.length ≤ cap ∧ w.heap[g]? = some (.cells cur 33 (0, 0)) ∧
  (∀ i, i < zss.length → cur[off + i]? = some (us.getD i undef)) ∧ (∀ i b, i < zss.length → (us.getD i undef).ownBlock = some b → b ≠ g)) ∧
 (∀ i, i < zss.length → RowI w lo hi (us.getD i undef) (zss.getD i [])) ∧
 (∀ i j b, i < zss.length → j < zss.length → i ≠ j → (us.getD i undef).ownBlock = some b → (us.getD j undef).ownBlock ≠ some b)
theorem RowI.block {w : World} {lo hi : Nat} {v : Value} {zs : List Int} (h : RowI w lo hi v zs) : (v = .slice none 0 0 ∧ zs = []) ∨ ∃ b, v.ownBlock = some b ∧ lo ≤ b ∧ b < hi ∧ RowI w b (b + 1) v zs := by
 obtain ⟨hl, h1 | ⟨g, off, cap, cur, rfl, h1, h2, h3⟩⟩ := h
 · exact .inl h1
 · exact .inr ⟨g, rfl, h1, h2, hl, .inr ⟨g, off, cap, cur, rfl, Nat.le_refl _, Nat.lt_succ_self _, h3⟩⟩
theorem RowSS.put {w w' : World} {lo hi : Nat} {v : Value} {us : List Value} {zss : List (List Int)} (h : RowSS w lo hi v us zss) (i : Nat) (hi' : i < zss.length) (zs : List Int) {b : Nat} (hb : (us.getD i undef).ownBlock = some b) (hlo : lo ≤ b) (hhi : b < hi) (ho : Only b (b + 1) w w') (hr : RowI w' b (b + 1) (us.getD i undef) zs) :
 RowSS w' lo hi v us (zss.set i zs) := by
 obtain ⟨h1, h2, h3, h4, h5⟩ := h
 have hne : ∀ j, j ≠ i → (zss.set i zs).getD j [] = zss.getD j [] := fun j hj => by
  rw [List.getD_eq_getElem?_getD, List.getElem?_set_ne (Ne.symm hj), List.getD_eq_getElem?_getD]
 have heq : (zss.set i zs).getD i [] = zs := by
  rw [List.getD_eq_getElem?_getD, List.getElem?_set_self hi']; rfl
 refine ⟨by rw [List.length_set]; exact h1, by rw [List.length_set]; exact h2, ?_, fun j hj => ?_, fun a c d ha hc => by rw [List.length_set] at ha hc; exact h5 a c d ha hc⟩
 · rcases h3 with ⟨_, h0⟩ | ⟨g, off, cap, cur, rfl, q1, q2, q3, q4, q5, q6⟩
   · rw [h0] at hi'; simp at hi'
   · refine .inr ⟨g, off, cap, cur, by rw [List.length_set], q1, q2, by rw [List.length_set]; exact q3, ?_, fun j hj => q5 j (by rw [List.length_set] at hj; exact hj), fun j c hj => q6 j c (by rw [List.length_set] at hj; exact hj)⟩
     have := q6 i b hi' hb
     rw [ho.block g (by omega)]; exact q4
 · rw [List.length_set] at hj
   by_cases hji : j = i
   · subst hji
     rw [heq]
     exact hr.wide hlo (by omega)
   · rw [hne j hji]
     rcases (h4 j hj).block with ⟨e1, e2⟩ | ⟨c, e1, e2, e3, e4⟩
     · rw [e1, e2]; exact ⟨by simp, .inl ⟨rfl, rfl⟩⟩
     · have hcb : c ≠ b := fun e => h5 i j b hi' hj (Ne.symm hji) hb (by rw [e1, e])
       exact (e4.only ho (by omega)).wide e2 (by omega)
abbrev OwnsW (w : World) (base : Nat) (v : Value) (us : List Value) : Prop := w.ownsRow base 33 1 v us.length us
theorem OwnsW.nil (w : World) (base : Nat) : OwnsW w base (.slice none 0 0) [] := World.ownsRow_nil _ _ _ _
theorem OwnsW.lit (w : World) : OwnsW (w.alloc (.cells #[] 33)) w.heap.size (.slice (some ⟨w.heap.size, 0, none⟩) 0 0) [] := World.ownsRow_lit w #[] 0 (Nat.le_refl _) (Nat.zero_le _) rfl
theorem OwnsW.other {w w' : World} {base : Nat} {v : Value} {us : List Value} (h : OwnsW w base v us) (hb : ∀ k, v.ownBlock = some k → w'.heap[k]? = w.heap[k]?) : OwnsW w' base v us := by
 obtain ⟨h1, h2 | ⟨g, cap, cur, rfl, hg, hh, hr⟩⟩ := h
 · exact ⟨h1, .inl h2⟩
 · exact ⟨h1, .inr ⟨g, cap, cur, rfl, hg, (hb g rfl).trans hh, hr⟩⟩
theorem OwnsW.form {w : World} {base : Nat} {v : Value} {us : List Value} (h : OwnsW w base v us) : ∃ a cap, v = .slice a us.length cap := by
 obtain ⟨_, ⟨h1, h2⟩ | ⟨g, cap, cur, h1, _⟩⟩ := h
 · exact ⟨none, 0, by rw [h1, h2]⟩
 · exact ⟨_, _, h1⟩
theorem RowSS.read {w : World} {lo hi : Nat} {v : Value} {us : List Value} {zss : List (List Int)} (h : RowSS w lo hi v us zss) : ReadSS hi w v zss := by
 obtain ⟨h1, h2, h3, h4, h5⟩ := h
 rcases h3 with ⟨rfl, rfl⟩ | ⟨g, off, cap, cur, rfl, q1, q2, q3, q4, q5, q6⟩
 · exact ⟨by simp, none, 0, rfl, ⟨fun _ => rfl, Nat.le_refl _⟩, .inl rfl⟩
 · refine ⟨by omega, _, _, rfl, ⟨(fun e => by cases e), q3⟩, .inr ⟨g, off, rfl, q2, fun i hi => ⟨us.getD i undef, by rw [cell_of_heap q4]; exact q5 i hi, (h4 i hi).read⟩⟩⟩
theorem RowSS.keep {w w' : World} {lo hi : Nat} {v : Value} {us : List Value} {zss : List (List Int)} (h : RowSS w lo hi v us zss) (hb : ∀ k, lo ≤ k → k < hi → w'.heap[k]? = w.heap[k]?) : RowSS w' lo hi v us zss := by
 obtain ⟨h1, h2, h3, h4, h5⟩ := h
 refine ⟨h1, h2, ?_, fun i hi => (h4 i hi).keep hb, h5⟩
 rcases h3 with e | ⟨g, off, cap, cur, q0, q1, q2, q3, q4, q5⟩
 · exact .inl e
 · exact .inr ⟨g, off, cap, cur, q0, q1, q2, q3, by rw [hb g q1 q2]; exact q4, q5⟩
theorem RowSS.below {w w' : World} {lo hi B : Nat} {v : Value} {us : List Value} {zss : List (List Int)} (h : RowSS w lo hi v us zss) (hb : Below B w w') (hB : hi ≤ B) : RowSS w' lo hi v us zss :=
 h.keep fun k _ hk => hb.block k (by omega)
theorem RowSS.only {w w' : World} {lo hi lo' hi' : Nat} {v : Value} {us : List Value} {zss : List (List Int)} (h : RowSS w lo hi v us zss) (ho : Only lo' hi' w w') (hd : hi ≤ lo' ∨ hi' ≤ lo) : RowSS w' lo hi v us zss :=
 h.keep fun k h1 h2 => ho.block k (by omega)
theorem RowSS.wide {w : World} {lo hi lo' hi' : Nat} {v : Value} {us : List Value} {zss : List (List Int)} (h : RowSS w lo hi v us zss) (h1 : lo' ≤ lo) (h2 : hi ≤ hi') : RowSS w lo' hi' v us zss := by
 obtain ⟨g1, g2, g3, g4, g5⟩ := h
 refine ⟨g1, g2, ?_, fun i hi => (g4 i hi).wide h1 h2, g5⟩
 rcases g3 with e | ⟨g, off, cap, cur, q0, q1, q2, q3⟩
 · exact .inl e
 · exact .inr ⟨g, off, cap, cur, q0, by omega, by omega, q3⟩
open Go.RowKit Go.ChangeShapes Go.WideShapes Go.Deep
set_option maxRecDepth 100000
def IsRowW (w : World) (a : Option Addr) (len cap : Nat) (zss : List (List Int)) : Prop :=
 (a = none ∧ len = 0 ∧ cap = 0 ∧ zss = []) ∨ ∃ x, a = some x ∧ len ≤ cap ∧ cap ≤ maxLen ∧ zss.length = len ∧
  ∀ i, i < len → ∃ ai ni ci zs, w.cell? (x.add i) = some (.slice ai ni ci) ∧ IsRow .i64 w ai ni ci zs ∧ zss.getD i [] = zs.take ni
def HeadsW (w : World) (v : Value) (ns : List Nat) : Prop :=
 ∃ a cap, v = .slice a ns.length cap ∧ ns.length ≤ 9223372036854775807 ∧ (ns = [] ∨ ∃ b off, a = some ⟨b, off, none⟩ ∧ b < w.heap.size ∧ ∀ i, i < ns.length → ∃ ai ci, w.cell? ⟨b, off + i, none⟩ = some (.slice ai (ns.getD i 0) ci) ∧ ns.getD i 0 ≤ 9223372036854775807)
theorem HeadsW.below {w w' : World} {v : Value} {ns : List Nat} (h : HeadsW w v ns) (hb : Below w.heap.size w w') : HeadsW w' v ns := by
 obtain ⟨a, cap, hv, hl, hc⟩ := h
 refine ⟨a, cap, hv, hl, hc.imp id ?_⟩
 rintro ⟨b, off, ha, hB, hcell⟩
 refine ⟨b, off, ha, by have := hb.size; omega, fun i hi => ?_⟩
 obtain ⟨ai, ci, h1, h2⟩ := hcell i hi
 exact ⟨ai, ci, by rw [hb.cell (p := ⟨b, off + i, none⟩) hB]; exact h1, h2⟩
theorem row_take_len {k : IntKind} {w : World} {a : Option Addr} {n cap : Nat} {zs : List Int} (h : IsRow k w a n cap zs) : (zs.take n).length = n := by
 rcases h with ⟨_, rfl, _, rfl⟩ | ⟨x, _, h1, _, h3, _⟩
 · rfl
 · rw [List.length_take]; omega
theorem IsRowW.spot {w : World} {a : Option Addr} {len cap : Nat} {zss : List (List Int)} (h : IsRowW w a len cap zss) (h0 : 0 < len) :
 ∃ b off, a = some ⟨b, off, none⟩ ∧ b < w.heap.size ∧ len ≤ cap ∧ zss.length = len ∧ ∀ i, i < len → ∃ ai ni ci zs, w.cell? ⟨b, off + i, none⟩ = some (.slice ai ni ci) ∧ IsRow .i64 w ai ni ci zs ∧ zss.getD i [] = zs.take ni := by
 rcases h with ⟨_, h1, _⟩ | ⟨x, rfl, h1, h2, h3, hc⟩
 · omega
 · obtain ⟨_, _, _, _, c0, _⟩ := hc 0 h0
   obtain ⟨b, off, spot⟩ := x
   have hspot : spot = none := by simpa [Addr.add] using World.cell?_spot c0
   subst hspot
   refine ⟨b, off, rfl, ?_, h1, h3, fun i hi => ?_⟩
   · have c0' := c0
     simp [Addr.add] at c0'
     rcases Nat.lt_or_ge b w.heap.size with h1 | h1
     · exact h1
     · unfold World.cell? at c0'
       rw [show w.heap[(⟨b, off, none⟩ : Addr).block]? = none from Array.getElem?_eq_none h1] at c0'
       cases c0'
   · obtain ⟨ai, ni, ci, zs, q1, q2, q3⟩ := hc i hi
     refine ⟨ai, ni, ci, zs, ?_, q2, q3⟩
     by_cases hi0 : i = 0
     · subst hi0; simpa [Addr.add] using q1
     · simpa [Addr.add, hi0] using q1
theorem IsRowW.len {w : World} {a : Option Addr} {len cap : Nat} {zss : List (List Int)} (h : IsRowW w a len cap zss) : zss.length = len ∧ len ≤ 9223372036854775807 := by
 rcases h with ⟨_, rfl, _, rfl⟩ | ⟨x, _, h1, h2, h3, _⟩
 · exact ⟨rfl, by omega⟩
 · exact ⟨h3, by unfold maxLen at h2; omega⟩
theorem getD_map_len (zss : List (List Int)) (i : Nat) : (zss.map List.length).getD i 0 = (zss.getD i []).length := by
 rw [List.getD_eq_getElem?_getD, List.getElem?_map, List.getD_eq_getElem?_getD]
 cases zss[i]? <;> rfl
theorem sumN_getD : ∀ (ns : List Nat) (i : Nat), i < ns.length → ns.getD i 0 ≤ sumN ns := by
 intro ns
 induction ns with
 | nil => intro i hi; simp at hi
 | cons n ns ih =>
  intro i hi
  cases i with
  | zero => simp [sumN]
  | succ i => have := ih i (by simpa using hi); simp only [List.getD_cons_succ, sumN]; omega
theorem IsRowW.read {w : World} {a : Option Addr} {len cap : Nat} {zss : List (List Int)} (h : IsRowW w a len cap zss) (hs : zss.length + sumN (zss.map List.length) ≤ 1048576) :
 ReadSS w.heap.size w (.slice a len cap) zss ∧ (∀ zs ∈ zss, InR zs) ∧ zss.length = len := by
 obtain ⟨hl, hm⟩ := h.len
 rcases Nat.eq_zero_or_pos len with h0 | h0
 · have hz : zss = [] := List.length_eq_zero_iff.1 (by omega)
   subst hz h0
   refine ⟨⟨by simp, a, cap, rfl, ?_, .inl rfl⟩, (fun zs hzs => (List.not_mem_nil hzs).elim), rfl⟩
   rcases h with ⟨rfl, _, rfl, _⟩ | ⟨x, rfl, h1, _⟩
   · exact ⟨fun _ => rfl, Nat.le_refl _⟩
   · exact ⟨(fun e => by cases e), Nat.zero_le _⟩
 · obtain ⟨b, off, rfl, hb, hcap, _, hc⟩ := h.spot h0
   have each : ∀ i, i < zss.length → ∃ u, w.cell? ⟨b, off + i, none⟩ = some u ∧ ReadI w.heap.size w u (zss.getD i []) ∧ InR (zss.getD i []) := fun i hi => by
    obtain ⟨ai, ni, ci, zs, q1, q2, q3⟩ := hc i (by omega)
    have hn : ni ≤ 1048576 := by
     have h1 := sumN_getD (zss.map List.length) i (by rw [List.length_map]; omega)
     rw [getD_map_len, q3, row_take_len q2] at h1
     omega
    obtain ⟨r1, r2, _⟩ := readI_row q2 hn
    exact ⟨_, q1, by rw [q3]; exact r1, by rw [q3]; exact r2⟩
   refine ⟨⟨by omega, _, cap, by rw [hl], ⟨(fun e => by cases e), by omega⟩, .inr ⟨b, off, rfl, hb, fun i hi => ?_⟩⟩, fun zs hzs => ?_, hl⟩
   · obtain ⟨u, h1, h2, _⟩ := each i hi
     exact ⟨u, h1, h2⟩
   · obtain ⟨i, hi, rfl⟩ := List.getElem_of_mem hzs
     obtain ⟨_, _, _, h3⟩ := each i hi
     rwa [List.getD_eq_getElem?_getD, List.getElem?_eq_getElem hi] at h3
section
variable {H : Type} {enc : TypeId × Value → H} {W : World} {base : Nat} {v : Value} {d : DataW H} {p : List MemPlace}
end
def Climb (w : World) (lo : Nat) (us : List Value) (zss : List (List Int)) : Prop :=
 (∀ i, i < us.length → RowI w lo w.heap.size (us.getD i undef) (zss.getD i [])) ∧ us.Pairwise (fun p q => ∀ b c, p.ownBlock = some b → q.ownBlock = some c → b < c)
theorem Climb.keep {w w' : World} {lo : Nat} {us : List Value} {zss : List (List Int)} (h : Climb w lo us zss) (hs : w.heap.size ≤ w'.heap.size) (hb : ∀ b, lo ≤ b → b < w.heap.size → w'.heap[b]? = w.heap[b]?) : Climb w' lo us zss :=
 ⟨fun i hi => ((h.1 i hi).keep hb).wide (Nat.le_refl _) hs, h.2⟩
theorem Climb.lt {w : World} {lo : Nat} {us : List Value} {zss : List (List Int)} (h : Climb w lo us zss) : ∀ x ∈ us, ∀ b, x.ownBlock = some b → lo ≤ b ∧ b < w.heap.size := by
 intro x hx b hb
 obtain ⟨i, hi, rfl⟩ := List.getElem_of_mem hx
 have := h.1 i hi
 rw [List.getD_eq_getElem?_getD, List.getElem?_eq_getElem hi] at this
 rcases this.block with ⟨e1, _⟩ | ⟨d, e1, e2, e3, _⟩
 · simp only [Option.getD_some] at e1; rw [e1] at hb; cases hb
 · simp only [Option.getD_some] at e1; rw [e1] at hb; cases hb; exact ⟨e2, e3⟩
end Go.Proofs.YtgnomlcjikfdhaaGreat
namespace Go.Proofs.YtgnomlcjikfdhaaGreat
open Go.RowKit
set_option linter.unusedVariables false
set_option linter.unusedSimpArgs false
def Rd (es : List Ed) : Int → List Int → Int → Prop
 | v, [], x => v = x
 | v, l :: w, x => ∃ y, StepAt es v l y ∧ Rd es y w x
theorem rd_append {es : List Ed} {a b : List Int} : ∀ {v x : Int}, Rd es v (a ++ b) x ↔ ∃ y, Rd es v a y ∧ Rd es y b x := by
 induction a with
 | nil => intro v x; exact ⟨fun h => ⟨v, rfl, h⟩, fun ⟨y, h1, h2⟩ => by have h1' : v = y := h1; rw [h1']; exact h2⟩
 | cons l a ih =>
  intro v x
  constructor
  · rintro ⟨z, h1, h2⟩
    obtain ⟨y, h3, h4⟩ := ih.1 h2
    exact ⟨y, ⟨z, h1, h3⟩, h4⟩
  · rintro ⟨y, ⟨z, h1, h3⟩, h4⟩
    exact ⟨z, h1, ih.2 ⟨y, h3, h4⟩⟩
theorem rd_one {es : List Ed} {v l x : Int} : Rd es v [l] x ↔ StepAt es v l x :=
 ⟨fun ⟨y, h1, h2⟩ => by have h2' : y = x := h2; rw [← h2']; exact h1, fun h => ⟨x, h, rfl⟩⟩
theorem step_back {es : List Ed} {v l y : Int} (h : StepAt es v l y) : StepAt es y (-l) v := by
 rw [step_iff] at h ⊢
 rw [Int.neg_neg]
 exact h.symm
theorem rd_back {r s : Int} {es : List Ed} (hg : isGr r s es = true) : ∀ {w : List Int} {v x : Int}, Rd es v w x → Rd es x (invL w) v := by
 intro w
 induction w with
 | nil => intro v x h; exact (show v = x from h).symm
 | cons l w ih =>
  rintro v x ⟨y, h1, h2⟩
  have hv := (stepAt_vert hg h1).2.2
  have hl := isGr_lim hg
  have hn : ng l = -l := ng_of (by omega) (by omega)
  have e : invL (l :: w) = invL w ++ [-l] := by unfold invL; rw [List.map_cons, List.reverse_cons, hn]
  rw [e]
  exact rd_append.2 ⟨y, ih h2, rd_one.2 (step_back h1)⟩
section
variable {r s : Int} {es : List Ed}
theorem rd_stk (hg : isGr r s es = true) (hf : foldB es es.length = true) : ∀ {w st : List Int} {v y x : Int}, Rd es v st.reverse y → Rd es y w x → Rd es v (stk st w).reverse x := by
 intro w
 induction w with
 | nil => intro st v y x h1 h2; have h2' : y = x := h2; rw [← h2']; exact h1
 | cons c w ih =>
  rintro st v y x h1 ⟨z, h2, h3⟩
  rw [stk_cons]
  refine ih ?_ h3
  have hno : Rd es v (c :: st).reverse z := by
   rw [List.reverse_cons]
   exact rd_append.2 ⟨y, h1, rd_one.2 h2⟩
  cases st with
  | nil => exact hno
  | cons b t =>
   cases hi : inv b c with
   | false => rw [push_no hi]; exact hno
   | true =>
    rw [push_yes hi]
    obtain ⟨hb, _⟩ := inv_eq hi
    rw [List.reverse_cons] at h1
    obtain ⟨u, h4, h5⟩ := rd_append.1 h1
    rw [rd_one, hb] at h5
    have h6 := step_back h5
    rw [Int.neg_neg] at h6
    rw [stepAt_uniq hg hf h2 h6]
    exact h4
theorem rd_red (hg : isGr r s es = true) (hf : foldB es es.length = true) {w : List Int} (hin : InR w) {v x : Int} (h : Rd es v w x) : Rd es v (redL w) x := by
 rw [redL_stk hin]
 exact rd_stk hg hf (st := []) (y := v) rfl h
theorem rd_wk (hg : isGr r s es = true) (hf : foldB es es.length = true) : ∀ {w : List Int}, InR w → ∀ {v x : Int}, wk es v w = (x, w.length) ↔ Rd es v w x := by
 intro w
 induction w with
 | nil =>
  intro _ v x
  show (v, 0) = (x, 0) ↔ v = x
  simp
 | cons l w ih =>
  intro hin v x
  have hl := hin.head
  rw [wk]
  rcases nx_cases hg hf (v := v) (l := l) hl with h | h
  · have h0 : ¬ nxV es v l < 0 := by have := h.2; omega
    rw [if_neg h0]
    constructor
    · intro e
      have e1 := congrArg Prod.fst e
      have e2 := congrArg Prod.snd e
      simp only [List.length_cons] at e1 e2
      refine ⟨nxV es v l, h.1, (ih hin.tail).1 (Prod.ext e1 ?_)⟩
      show (wk es (nxV es v l) w).2 = w.length
      omega
    · rintro ⟨y, h1, h2⟩
      have hy := stepAt_uniq hg hf h1 h.1
      subst hy
      have := (ih hin.tail).2 h2
      rw [this]
      rfl
  · have h0 : nxV es v l < 0 := by have := h.1; omega
    rw [if_pos h0]
    constructor
    · intro e
      have e2 := congrArg Prod.snd e
      simp at e2
    · rintro ⟨y, h1, _⟩
      exact absurd h1 (h.2 y)
end
end Go.Proofs.YtgnomlcjikfdhaaGreat
