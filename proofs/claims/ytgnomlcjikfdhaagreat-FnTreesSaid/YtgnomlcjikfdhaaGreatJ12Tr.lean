import Derived.Laws.AppendOwn
import Derived.Laws.AppendOwnNone
import Derived.Maps.AppendAt
import Derived.Test.YtgnomlcjikfdhaaGreatJ3Tr
namespace Go.Proofs.YtgnomlcjikfdhaaGreat
open Go.RowKit
set_option linter.unusedVariables false
set_option linter.unusedSimpArgs false
theorem infoFold : (Tryz.prog.info? 126).map (fun i => (i.zero, i.size, i.bytes)) = some (some (.agg #[.int .i64 0, .int .i64 0]), 2, 16) := by kernel_rfl
theorem sizeFold : (Tryz.prog.info? 126).map (·.size) = some 2 := by kernel_rfl
open Go.RowKit Go.ChangeShapes Go.WideShapes Go.Deep
set_option maxRecDepth 100000
abbrev tupF := Int × Int
def zeroF : tupF := (0, 0)
def flatF : List tupF → List Int
 | [] => []
 | e :: es => e.1 :: e.2 :: flatF es
theorem flatF_length : ∀ es : List tupF, (flatF es).length = es.length * 2 := by
 intro es
 induction es with
 | nil => rfl
 | cons e es ih => simp only [flatF, List.length_cons, ih]; omega
theorem flatF_append (a b : List tupF) : flatF (a ++ b) = flatF a ++ flatF b := by
 induction a with
 | nil => rfl
 | cons e a ih => simp only [List.cons_append, flatF, ih]
theorem flatF_at : ∀ (es : List tupF) (i : Nat), i < es.length → (flatF es).getD (i * 2) 0 = (es.getD i zeroF).1 ∧ (flatF es).getD (i * 2 + 1) 0 = (es.getD i zeroF).2 := by
 intro es
 induction es with
 | nil => intro i h; simp at h
 | cons e es ih =>
  intro i h
  cases i with
  | zero => simp [flatF]
  | succ i =>
   have := ih i (by simpa using h)
   rw [show (i + 1) * 2 = i * 2 + 1 + 1 by omega]
   simpa [flatF] using this
def InF (es : List tupF) : Prop := ∀ e ∈ es, (-9223372036854775808 ≤ e.1 ∧ e.1 ≤ 9223372036854775807) ∧ (-9223372036854775808 ≤ e.2 ∧ e.2 ≤ 9223372036854775807)
theorem InF.at_ {es : List tupF} (h : InF es) {i : Nat} (hi : i < es.length) : (-9223372036854775808 ≤ (es.getD i zeroF).1 ∧ (es.getD i zeroF).1 ≤ 9223372036854775807) ∧ (-9223372036854775808 ≤ (es.getD i zeroF).2 ∧ (es.getD i zeroF).2 ≤ 9223372036854775807) := by
 apply h
 rw [List.getD_eq_getElem?_getD, List.getElem?_eq_getElem hi]
 exact List.getElem_mem hi
abbrev ReadF (B : Nat) (w : World) (v : Value) (es : List tupF) : Prop := ReadS 2 B w v es.length (flatF es)
theorem ReadF.cells {B : Nat} {w : World} {a : Option Addr} {n cap : Nat} {es : List tupF} (h : ReadF B w (.slice a n cap) es) (i : Nat) (hi : i < es.length) :
 ∃ b off, a = some ⟨b, off, none⟩ ∧ b < B ∧ w.cell? ⟨b, off + i * 2, none⟩ = some (.int .i64 (es.getD i zeroF).1) ∧ w.cell? ⟨b, off + i * 2 + 1, none⟩ = some (.int .i64 (es.getD i zeroF).2) := by
 obtain ⟨b, off, ha, hB, hc⟩ := h.at_ i hi
 obtain ⟨h0, h1⟩ := flatF_at es i hi
 have c0 := hc 0 (by omega)
 rw [Nat.add_zero, Nat.add_zero, h0] at c0
 have c1 := hc 1 (by omega)
 rw [h1] at c1
 exact ⟨b, off, ha, hB, c0, c1⟩
def IsRowF (w : World) (a : Option Addr) (len cap : Nat) (es : List tupF) : Prop :=
 (a = none ∧ len = 0 ∧ cap = 0 ∧ es = []) ∨ ∃ x, a = some x ∧ len ≤ cap ∧ cap ≤ maxLen ∧ es.length = len ∧ InF es ∧
  ∀ i, i < len → w.cell? (x.add (i * 2)) = some (.int .i64 (es.getD i zeroF).1) ∧ w.cell? (x.add (i * 2 + 1)) = some (.int .i64 (es.getD i zeroF).2)
theorem IsRowF.len {w : World} {a : Option Addr} {len cap : Nat} {es : List tupF} (h : IsRowF w a len cap es) : es.length = len ∧ InF es ∧ (len : Int) ≤ 9223372036854775807 := by
 rcases h with ⟨_, rfl, _, rfl⟩ | ⟨x, _, h1, h2, h3, h4, _⟩
 · exact ⟨rfl, (fun e h => by cases h), by omega⟩
 · exact ⟨h3, h4, by unfold maxLen at h2; omega⟩
theorem IsRowF.read {w : World} {a : Option Addr} {len cap : Nat} {es : List tupF} (h : IsRowF w a len cap es) (hl : len ≤ 1048576) : ReadF w.heap.size w (.slice a len cap) es := by
 rcases h with ⟨rfl, rfl, rfl, rfl⟩ | ⟨x, rfl, h1, h2, h3, h4, hc⟩
 · exact ⟨rfl, by simp, none, 0, rfl, ⟨fun _ => rfl, Nat.le_refl _⟩, .inl rfl⟩
 · refine ⟨flatF_length es, by omega, some x, cap, by rw [h3], ⟨(fun e => by cases e), by omega⟩, ?_⟩
   rcases Nat.eq_zero_or_pos len with h0 | h0
   · left; omega
   · right
     have c0 := (hc 0 h0).1
     obtain ⟨b, off, spot⟩ := x
     have hspot : spot = none := by simpa [Addr.add] using World.cell?_spot c0
     subst hspot
     refine ⟨b, off, rfl, ?_, fun k hk => ?_⟩
     · have c0' : w.cell? ⟨b, off, none⟩ = some (.int .i64 (es.getD 0 zeroF).1) := by simpa [Addr.add] using c0
       rcases Nat.lt_or_ge b w.heap.size with h1 | h1
       · exact h1
       · unfold World.cell? at c0'
         rw [show w.heap[(⟨b, off, none⟩ : Addr).block]? = none from Array.getElem?_eq_none h1] at c0'
         cases c0'
     · obtain ⟨i, j, hj, rfl⟩ : ∃ i j, j < 2 ∧ k = i * 2 + j := ⟨k / 2, k % 2, Nat.mod_lt _ (by omega), by omega⟩
       have hi : i < len := by omega
       obtain ⟨d0, d1⟩ := hc i hi
       obtain ⟨g0, g1⟩ := flatF_at es i (by omega)
       have key : ∀ m z, w.cell? ((⟨b, off, none⟩ : Addr).add m) = some (.int .i64 z) → w.cell? ⟨b, off + m, none⟩ = some (.int .i64 z) := by
        intro m z hm
        by_cases hm0 : m = 0
        · subst hm0; simpa [Addr.add] using hm
        · simpa [Addr.add, hm0] using hm
       have hjs : j = 0 ∨ j = 1 := by omega
       rcases hjs with rfl | rfl
       · rw [Nat.add_zero, g0]; exact key _ _ d0
       · rw [g1]; exact key _ _ d1
abbrev OwnsF (w : World) (base : Nat) (v : Value) (es : List tupF) : Prop := OwnsS 126 2 w base v es.length (flatF es)
theorem OwnsF.litF (w : World) : OwnsF (w.alloc (.cells #[] 126)) w.heap.size (.slice (some ⟨w.heap.size, 0, none⟩) 0 0) [] := OwnsS.lit w
theorem wpList_pushF {w0 : World} {ops : Array Oper} {rest : List Oper} {o : Oper} {a : Act} {Q : Exit → Act → World → Prop} (hgd : o.guard = none) (s x : Operand)
 (ho : o.op = .call { callee := .builtin .append, args := #[s, x], argTypes := #[90, 90] }) (base : Nat) (v : Value) (es : List tupF) (x0 x1 : Int)
 (hs : a.eval s = v) (hx : a.eval x = .slice (some ⟨w0.heap.size, 0, none⟩) 1 1) (hown : OwnsF w0 base v es) (hl : es.length ≤ 4000000000000) (hbase : base ≤ w0.heap.size)
 (h : ∀ v' w', OwnsF w' base v' (es ++ [(x0, x1)]) → Below base w0 w' → wpList Tryz.prog ops Q rest (a.put o.dst v') w') :
 wpList Tryz.prog ops Q (o :: rest) a (w0.alloc (.cells #[.int .i64 x0, .int .i64 x1] 126)) := by
 obtain ⟨i0, hi, hz0, hz1, hz2⟩ := info_parts infoFold
 refine wpList_append_own _ hgd s x 90 ho base 126 i0 _ 2 16 Tryz.underlying90 hi hz0 hz1 hz2 rfl (by decide) v es.length ((flatF es).map iv) hs (World.ownsRow.alloc hown _) ⟨w0.heap.size, 0, none⟩ 1 1 [iv x0, iv x1] hx rfl ?_ ?_ ?_ ?_ ?_ ?_
 · intro j u hj
   have hk := heap_alloc_new w0 (.cells #[.int .i64 x0, .int .i64 x1] 126)
   rw [addr_plus, Nat.zero_add]
   have c := cell_of_heap hk j
   match j, hj with
   | 0, hj => simp at hj; subst hj; simp [iv]
   | 1, hj => simp at hj; subst hj; simp [iv]
 · intro u hu
   simp at hu
   rcases hu with rfl | rfl <;> rfl
 · unfold maxLen; omega
 · omega
 · simp; omega
 · intro v' w' ho' hg _
   refine h v' w' (by unfold OwnsF OwnsS; rw [flatF_append]; simpa [flatF] using ho') ?_
   exact ((Below.refl base w0).alloc hbase _).grown hg (by simp; omega) (fun k hk => (World.ownsRow.lt hown k hk).1)
theorem wpList_pushF_at {w0 : World} {ops : Array Oper} {rest : List Oper} {o : Oper} {a : Act} {Q : Exit → Act → World → Prop} (hgd : o.guard = none) (s x : Operand)
 (ho : o.op = .call { callee := .builtin .append, args := #[s, x], argTypes := #[90, 90] }) (base : Nat) (v : Value) (es : List tupF) (x0 x1 : Int)
 (hs : a.eval s = v) (hx : a.eval x = .slice (some ⟨w0.heap.size, 0, none⟩) 1 1) (hown : OwnsF w0 base v es) (hl : es.length ≤ 4000000000000) (hbase : base ≤ w0.heap.size)
 (h : ∀ v' w', OwnsF w' base v' (es ++ [(x0, x1)]) → (w0.alloc (.cells #[.int .i64 x0, .int .i64 x1] 126)).grownBy w' v.ownBlock → (v'.ownBlock = v.ownBlock ∨ v'.ownBlock = some (w0.heap.size + 1)) → wpList Tryz.prog ops Q rest (a.put o.dst v') w') :
 wpList Tryz.prog ops Q (o :: rest) a (w0.alloc (.cells #[.int .i64 x0, .int .i64 x1] 126)) := by
 obtain ⟨i0, hi, hz0, hz1, hz2⟩ := info_parts infoFold
 refine wpList_append_own_at _ hgd s x 90 ho base 126 i0 _ 2 16 Tryz.underlying90 hi hz0 hz1 hz2 rfl (by decide) v es.length ((flatF es).map iv) hs (World.ownsRow.alloc hown _) ⟨w0.heap.size, 0, none⟩ 1 1 [iv x0, iv x1] hx rfl ?_ ?_ ?_ ?_ ?_ ?_
 · intro j u hj
   have hk := heap_alloc_new w0 (.cells #[.int .i64 x0, .int .i64 x1] 126)
   rw [addr_plus, Nat.zero_add]
   have c := cell_of_heap hk j
   match j, hj with
   | 0, hj => simp at hj; subst hj; simp [iv]
   | 1, hj => simp at hj; subst hj; simp [iv]
 · intro u hu
   simp at hu
   rcases hu with rfl | rfl <;> rfl
 · unfold maxLen; omega
 · omega
 · simp; omega
 · intro v' w' ho' hg _ hw
   exact h v' w' (by unfold OwnsF OwnsS; rw [flatF_append]; simpa [flatF] using ho') hg (by simpa using hw)
end Go.Proofs.YtgnomlcjikfdhaaGreat
