import Derived.Laws.AppendOwn
import Derived.Laws.AppendOwnNone
import Derived.Maps.AppendAt
import Derived.Deep.LoopGhost
import Derived.Deep.Cut
import Derived.Test.YtpjlamnjiilgbaaGreatJ1Is
import Derived.Test.YtpjlamnjiilgbaaGreatJ4Is
import Derived.Test.YtpjlamnjiilgbaaGreatJ2Is
namespace Go.Proofs.YtpjlamnjiilgbaaGreat
open Go.RowKit
set_option linter.unusedVariables false
set_option linter.unusedSimpArgs false
theorem infoFold : (Tryz.prog.info? 167).map (fun i => (i.zero, i.size, i.bytes)) = some (some (.agg #[.int .i64 0, .int .i64 0]), 2, 16) := by kernel_rfl
theorem sizeFold : (Tryz.prog.info? 167).map (·.size) = some 2 := by kernel_rfl
open Go.RowKit Go.ChangeShapes Go.WideShapes Go.Deep
set_option maxRecDepth 100000
abbrev tupF := Int × Int
def zeroF : tupF := (0, 0)
def flatF : List tupF → List Int
 | [] => []
 | e :: es => e.1 :: e.2 :: flatF es
theorem flatF_length : ∀ es : List tupF, (flatF es).length = es.length * 2 := by
 intro es
 induction es with
 | nil => rfl
 | cons e es ih => simp only [flatF, List.length_cons, ih]; omega
theorem flatF_append (a b : List tupF) : flatF (a ++ b) = flatF a ++ flatF b := by
 induction a with
 | nil => rfl
 | cons e a ih => simp only [List.cons_append, flatF, ih]
theorem flatF_at : ∀ (es : List tupF) (i : Nat), i < es.length → (flatF es).getD (i * 2) 0 = (es.getD i zeroF).1 ∧ (flatF es).getD (i * 2 + 1) 0 = (es.getD i zeroF).2 := by
 intro es
 induction es with
 | nil => intro i h; simp at h
 | cons e es ih =>
  intro i h
  cases i with
  | zero => simp [flatF]
  | succ i =>
   have := ih i (by simpa using h)
   rw [show (i + 1) * 2 = i * 2 + 1 + 1 by omega]
   simpa [flatF] using this
def InF (es : List tupF) : Prop := ∀ e ∈ es, (-9223372036854775808 ≤ e.1 ∧ e.1 ≤ 9223372036854775807) ∧ (-9223372036854775808 ≤ e.2 ∧ e.2 ≤ 9223372036854775807)
theorem InF.at_ {es : List tupF} (h : InF es) {i : Nat} (hi : i < es.length) : (-9223372036854775808 ≤ (es.getD i zeroF).1 ∧ (es.getD i zeroF).1 ≤ 9223372036854775807) ∧ (-9223372036854775808 ≤ (es.getD i zeroF).2 ∧ (es.getD i zeroF).2 ≤ 9223372036854775807) := by
 apply h
 rw [List.getD_eq_getElem?_getD, List.getElem?_eq_getElem hi]
 exact List.getElem_mem hi
abbrev ReadF (B : Nat) (w : World) (v : Value) (es : List tupF) : Prop := ReadS 2 B w v es.length (flatF es)
theorem ReadF.cells {B : Nat} {w : World} {a : Option Addr} {n cap : Nat} {es : List tupF} (h : ReadF B w (.slice a n cap) es) (i : Nat) (hi : i < es.length) :
 ∃ b off, a = some ⟨b, off, none⟩ ∧ b < B ∧ w.cell? ⟨b, off + i * 2, none⟩ = some (.int .i64 (es.getD i zeroF).1) ∧ w.cell? ⟨b, off + i * 2 + 1, none⟩ = some (.int .i64 (es.getD i zeroF).2) := by
 obtain ⟨b, off, ha, hB, hc⟩ := h.at_ i hi
 obtain ⟨h0, h1⟩ := flatF_at es i hi
 have c0 := hc 0 (by omega)
 rw [Nat.add_zero, Nat.add_zero, h0] at c0
 have c1 := hc 1 (by omega)
 rw [h1] at c1
 exact ⟨b, off, ha, hB, c0, c1⟩
def IsRowF (w : World) (a : Option Addr) (len cap : Nat) (es : List tupF) : Prop :=
 (a = none ∧ len = 0 ∧ cap = 0 ∧ es = []) ∨ ∃ x, a = some x ∧ len ≤ cap ∧ cap ≤ maxLen ∧ es.length = len ∧ InF es ∧
  ∀ i, i < len → w.cell? (x.add (i * 2)) = some (.int .i64 (es.getD i zeroF).1) ∧ w.cell? (x.add (i * 2 + 1)) = some (.int .i64 (es.getD i zeroF).2)
theorem IsRowF.len {w : World} {a : Option Addr} {len cap : Nat} {es : List tupF} (h : IsRowF w a len cap es) : es.length = len ∧ InF es ∧ (len : Int) ≤ 9223372036854775807 := by
 rcases h with ⟨_, rfl, _, rfl⟩ | ⟨x, _, h1, h2, h3, h4, _⟩
 · exact ⟨rfl, (fun e h => by cases h), by omega⟩
 · exact ⟨h3, h4, by unfold maxLen at h2; omega⟩
theorem IsRowF.read {w : World} {a : Option Addr} {len cap : Nat} {es : List tupF} (h : IsRowF w a len cap es) (hl : len ≤ 1048576) : ReadF w.heap.size w (.slice a len cap) es := by
 rcases h with ⟨rfl, rfl, rfl, rfl⟩ | ⟨x, rfl, h1, h2, h3, h4, hc⟩
 · exact ⟨rfl, by simp, none, 0, rfl, ⟨fun _ => rfl, Nat.le_refl _⟩, .inl rfl⟩
 · refine ⟨flatF_length es, by omega, some x, cap, by rw [h3], ⟨(fun e => by cases e), by omega⟩, ?_⟩
   rcases Nat.eq_zero_or_pos len with h0 | h0
   · left; omega
   · right
     have c0 := (hc 0 h0).1
     obtain ⟨b, off, spot⟩ := x
     have hspot : spot = none := by simpa [Addr.add] using World.cell?_spot c0
     subst hspot
     refine ⟨b, off, rfl, ?_, fun k hk => ?_⟩
     · have c0' : w.cell? ⟨b, off, none⟩ = some (.int .i64 (es.getD 0 zeroF).1) := by simpa [Addr.add] using c0
       rcases Nat.lt_or_ge b w.heap.size with h1 | h1
       · exact h1
       · unfold World.cell? at c0'
         rw [show w.heap[(⟨b, off, none⟩ : Addr).block]? = none from Array.getElem?_eq_none h1] at c0'
         cases c0'
     · obtain ⟨i, j, hj, rfl⟩ : ∃ i j, j < 2 ∧ k = i * 2 + j := ⟨k / 2, k % 2, Nat.mod_lt _ (by omega), by omega⟩
       have hi : i < len := by omega
       obtain ⟨d0, d1⟩ := hc i hi
       obtain ⟨g0, g1⟩ := flatF_at es i (by omega)
       have key : ∀ m z, w.cell? ((⟨b, off, none⟩ : Addr).add m) = some (.int .i64 z) → w.cell? ⟨b, off + m, none⟩ = some (.int .i64 z) := by
        intro m z hm
        by_cases hm0 : m = 0
        · subst hm0; simpa [Addr.add] using hm
        · simpa [Addr.add, hm0] using hm
       have hjs : j = 0 ∨ j = 1 := by omega
       rcases hjs with rfl | rfl
       · rw [Nat.add_zero, g0]; exact key _ _ d0
       · rw [g1]; exact key _ _ d1
abbrev OwnsF (w : World) (base : Nat) (v : Value) (es : List tupF) : Prop := OwnsS 167 2 w base v es.length (flatF es)
theorem OwnsF.litF (w : World) : OwnsF (w.alloc (.cells #[] 167)) w.heap.size (.slice (some ⟨w.heap.size, 0, none⟩) 0 0) [] := OwnsS.lit w
theorem wpList_pushF {w0 : World} {ops : Array Oper} {rest : List Oper} {o : Oper} {a : Act} {Q : Exit → Act → World → Prop} (hgd : o.guard = none) (s x : Operand)
 (ho : o.op = .call { callee := .builtin .append, args := #[s, x], argTypes := #[138, 138] }) (base : Nat) (v : Value) (es : List tupF) (x0 x1 : Int)
 (hs : a.eval s = v) (hx : a.eval x = .slice (some ⟨w0.heap.size, 0, none⟩) 1 1) (hown : OwnsF w0 base v es) (hl : es.length ≤ 4000000000000) (hbase : base ≤ w0.heap.size)
 (h : ∀ v' w', OwnsF w' base v' (es ++ [(x0, x1)]) → Below base w0 w' → wpList Tryz.prog ops Q rest (a.put o.dst v') w') :
 wpList Tryz.prog ops Q (o :: rest) a (w0.alloc (.cells #[.int .i64 x0, .int .i64 x1] 167)) := by
 obtain ⟨i0, hi, hz0, hz1, hz2⟩ := info_parts infoFold
 refine wpList_append_own _ hgd s x 138 ho base 167 i0 _ 2 16 Tryz.underlying138 hi hz0 hz1 hz2 rfl (by decide) v es.length ((flatF es).map iv) hs (World.ownsRow.alloc hown _) ⟨w0.heap.size, 0, none⟩ 1 1 [iv x0, iv x1] hx rfl ?_ ?_ ?_ ?_ ?_ ?_
 · intro j u hj
   have hk := heap_alloc_new w0 (.cells #[.int .i64 x0, .int .i64 x1] 167)
   rw [addr_plus, Nat.zero_add]
   have c := cell_of_heap hk j
   match j, hj with
   | 0, hj => simp at hj; subst hj; simp [iv]
   | 1, hj => simp at hj; subst hj; simp [iv]
 · intro u hu
   simp at hu
   rcases hu with rfl | rfl <;> rfl
 · unfold maxLen; omega
 · omega
 · simp; omega
 · intro v' w' ho' hg _
   refine h v' w' (by unfold OwnsF OwnsS; rw [flatF_append]; simpa [flatF] using ho') ?_
   exact ((Below.refl base w0).alloc hbase _).grown hg (by simp; omega) (fun k hk => (World.ownsRow.lt hown k hk).1)
theorem wpList_pushF_at {w0 : World} {ops : Array Oper} {rest : List Oper} {o : Oper} {a : Act} {Q : Exit → Act → World → Prop} (hgd : o.guard = none) (s x : Operand)
 (ho : o.op = .call { callee := .builtin .append, args := #[s, x], argTypes := #[138, 138] }) (base : Nat) (v : Value) (es : List tupF) (x0 x1 : Int)
 (hs : a.eval s = v) (hx : a.eval x = .slice (some ⟨w0.heap.size, 0, none⟩) 1 1) (hown : OwnsF w0 base v es) (hl : es.length ≤ 4000000000000) (hbase : base ≤ w0.heap.size)
 (h : ∀ v' w', OwnsF w' base v' (es ++ [(x0, x1)]) → (w0.alloc (.cells #[.int .i64 x0, .int .i64 x1] 167)).grownBy w' v.ownBlock → (v'.ownBlock = v.ownBlock ∨ v'.ownBlock = some (w0.heap.size + 1)) → wpList Tryz.prog ops Q rest (a.put o.dst v') w') :
 wpList Tryz.prog ops Q (o :: rest) a (w0.alloc (.cells #[.int .i64 x0, .int .i64 x1] 167)) := by
 obtain ⟨i0, hi, hz0, hz1, hz2⟩ := info_parts infoFold
 refine wpList_append_own_at _ hgd s x 138 ho base 167 i0 _ 2 16 Tryz.underlying138 hi hz0 hz1 hz2 rfl (by decide) v es.length ((flatF es).map iv) hs (World.ownsRow.alloc hown _) ⟨w0.heap.size, 0, none⟩ 1 1 [iv x0, iv x1] hx rfl ?_ ?_ ?_ ?_ ?_ ?_
 · intro j u hj
   have hk := heap_alloc_new w0 (.cells #[.int .i64 x0, .int .i64 x1] 167)
   rw [addr_plus, Nat.zero_add]
   have c := cell_of_heap hk j
   match j, hj with
   | 0, hj => simp at hj; subst hj; simp [iv]
   | 1, hj => simp at hj; subst hj; simp [iv]
 · intro u hu
   simp at hu
   rcases hu with rfl | rfl <;> rfl
 · unfold maxLen; omega
 · omega
 · simp; omega
 · intro v' w' ho' hg _ hw
   exact h v' w' (by unfold OwnsF OwnsS; rw [flatF_append]; simpa [flatF] using ho') hg (by simpa using hw)
end Go.Proofs.YtpjlamnjiilgbaaGreat
namespace Go.Proofs.YtpjlamnjiilgbaaGreat
open Go.RowKit
set_option linter.unusedVariables false
set_option linter.unusedSimpArgs false
def pairF (a b : Ed) : List tupF :=
 (if a.2.1 = b.2.1 ∧ a.1 = b.1 then [(min a.2.2 b.2.2, max a.2.2 b.2.2)] else []) ++ (if a.2.1 = b.2.1 ∧ a.2.2 = b.2.2 then [(min a.1 b.1, max a.1 b.1)] else [])
def rowF (es : List Ed) (i : Nat) : Nat → List tupF
 | 0 => []
 | d + 1 => rowF es i d ++ pairF (es.getD i e0) (es.getD (i + 1 + d) e0)
def allF (es : List Ed) : Nat → List tupF
 | 0 => []
 | i + 1 => allF es i ++ rowF es i (es.length - (i + 1))
def foldsF (es : List Ed) : List tupF := allF es es.length
theorem pairF_length (a b : Ed) : (pairF a b).length ≤ 2 := by unfold pairF; split <;> split <;> simp
theorem rowF_length (es : List Ed) (i : Nat) : ∀ d, (rowF es i d).length ≤ 2 * d := by
 intro d
 induction d with
 | zero => simp [rowF]
 | succ d ih => rw [rowF, List.length_append]; have := pairF_length (es.getD i e0) (es.getD (i + 1 + d) e0); omega
theorem allF_length (es : List Ed) : ∀ n, n ≤ es.length → (allF es n).length ≤ 2 * (n * es.length) := by
 intro n
 induction n with
 | zero => intro _; simp [allF]
 | succ n ih =>
  intro h
  rw [allF, List.length_append]
  have h1 := ih (by omega)
  have h2 := rowF_length es n (es.length - (n + 1))
  have h3 : (n + 1) * es.length = n * es.length + es.length := Nat.succ_mul _ _
  have h4 : 2 * ((n + 1) * es.length) = 2 * (n * es.length) + 2 * es.length := by rw [h3, Nat.mul_add]
  omega
theorem foldsF_length (es : List Ed) : (foldsF es).length ≤ 2 * (es.length * es.length) := allF_length es es.length (Nat.le_refl _)
def newV (k d v : Int) : Int := if (if v = d then k else v) > d then (if v = d then k else v) - 1 else (if v = d then k else v)
def newE (k d : Int) (e : Ed) : Ed := (newV k d e.1, e.2.1, newV k d e.2.2)
def mergeN (k d : Int) (es : List Ed) : Nat → List Ed
 | 0 => []
 | i + 1 => putE (newE k d (es.getD i e0)) (mergeN k d es i)
theorem mergeN_length (k d : Int) (es : List Ed) : ∀ i, (mergeN k d es i).length ≤ i := by
 intro i
 induction i with
 | zero => simp [mergeN]
 | succ i ih => rw [mergeN]; have := putE_length (newE k d (es.getD i e0)) (mergeN k d es i); omega
def mergeE (k d : Int) (es : List Ed) : List Ed := mergeN k d es es.length
theorem mergeE_length (k d : Int) (es : List Ed) : (mergeE k d es).length ≤ es.length := mergeN_length k d es es.length
def okM (r s : Int) (es : List Ed) (f : tupF) : Bool := isGr r s es && decide (0 ≤ f.1 ∧ f.1 < f.2 ∧ f.2 < s)
def mrS (r s : Int) (es : List Ed) (f : tupF) : Int := if okM r s es f = true then s - 1 else s
def mrE (r s : Int) (es : List Ed) (f : tupF) : List Ed := if okM r s es f = true then mergeE f.1 f.2 es else es
theorem mrE_length (r s : Int) (es : List Ed) (f : tupF) : (mrE r s es f).length ≤ es.length := by
 unfold mrE
 split
 · exact mergeE_length _ _ _
 · exact Nat.le_refl _
def ffB (r s : Int) (es : List Ed) : Bool := isGr r s es && decide ((foldsF es).length ≠ 0)
def ffF (r s : Int) (es : List Ed) : tupF := if ffB r s es = true then (foldsF es).getD 0 zeroF else zeroF
def onS (r s : Int) (es : List Ed) : Int := if ffB r s es = true then mrS r s es (ffF r s es) else s
def onE (r s : Int) (es : List Ed) : List Ed := if ffB r s es = true then mrE r s es (ffF r s es) else es
theorem onE_length (r s : Int) (es : List Ed) : (onE r s es).length ≤ es.length := by
 unfold onE
 split
 · exact mrE_length _ _ _ _
 · exact Nat.le_refl _
structure FoldSt where
 s : Int
 es : List Ed
 l : List tupF
def stN (r s : Int) (es : List Ed) : Nat → FoldSt
 | 0 => ⟨s, es, []⟩
 | i + 1 => if ffB r (stN r s es i).s (stN r s es i).es = true then ⟨onS r (stN r s es i).s (stN r s es i).es, onE r (stN r s es i).s (stN r s es i).es, (stN r s es i).l ++ [ffF r (stN r s es i).s (stN r s es i).es]⟩ else stN r s es i
theorem stN_len (r s : Int) (es : List Ed) : ∀ i, (stN r s es i).es.length ≤ es.length ∧ (stN r s es i).l.length ≤ i := by
 intro i
 induction i with
 | zero => exact ⟨Nat.le_refl _, Nat.le_refl _⟩
 | succ i ih =>
  rw [stN]
  split
  · have := onE_length r (stN r s es i).s (stN r s es i).es
    simp only [List.length_append, List.length_singleton]
    omega
  · omega
theorem stN_stop (r s : Int) (es : List Ed) {i : Nat} (h : ffB r (stN r s es i).s (stN r s es i).es = false) : ∀ j, stN r s es (i + j) = stN r s es i := by
 intro j
 induction j with
 | zero => rfl
 | succ j ih => rw [← Nat.add_assoc, stN, ih, h]; simp
def faS (r s : Int) (es : List Ed) : Int := (stN r s es 40).s
def faE (r s : Int) (es : List Ed) : List Ed := (stN r s es 40).es
def faL (r s : Int) (es : List Ed) : List tupF := (stN r s es 40).l
def chN (cs : List Int) (i n : Nat) : Nat := if i < cs.length ∧ 0 < cs.getD i 0 then (cs.getD i 0 % (n : Int)).toNat else 0
def orN (r s : Int) (es : List Ed) (cs : List Int) : Nat → FoldSt
 | 0 => ⟨s, es, []⟩
 | i + 1 => if (foldsF (orN r s es cs i).es).length = 0 then orN r s es cs i else
  ⟨mrS r (orN r s es cs i).s (orN r s es cs i).es ((foldsF (orN r s es cs i).es).getD (chN cs i (foldsF (orN r s es cs i).es).length) zeroF),
   mrE r (orN r s es cs i).s (orN r s es cs i).es ((foldsF (orN r s es cs i).es).getD (chN cs i (foldsF (orN r s es cs i).es).length) zeroF),
   (orN r s es cs i).l ++ [(foldsF (orN r s es cs i).es).getD (chN cs i (foldsF (orN r s es cs i).es).length) zeroF]⟩
theorem orN_len (r s : Int) (es : List Ed) (cs : List Int) : ∀ i, (orN r s es cs i).es.length ≤ es.length ∧ (orN r s es cs i).l.length ≤ i := by
 intro i
 induction i with
 | zero => exact ⟨Nat.le_refl _, Nat.le_refl _⟩
 | succ i ih =>
  rw [orN]
  split
  · omega
  · have := mrE_length r (orN r s es cs i).s (orN r s es cs i).es ((foldsF (orN r s es cs i).es).getD (chN cs i (foldsF (orN r s es cs i).es).length) zeroF)
    simp only [List.length_append, List.length_singleton]
    omega
theorem orN_stop (r s : Int) (es : List Ed) (cs : List Int) {i : Nat} (h : (foldsF (orN r s es cs i).es).length = 0) : ∀ j, orN r s es cs (i + j) = orN r s es cs i := by
 intro j
 induction j with
 | zero => rfl
 | succ j ih => rw [← Nat.add_assoc, orN, ih, if_pos h]
def foS (r s : Int) (es : List Ed) (cs : List Int) : Int := if isGr r s es = true then (orN r s es cs 40).s else s
def foE (r s : Int) (es : List Ed) (cs : List Int) : List Ed := if isGr r s es = true then (orN r s es cs 40).es else es
def foL (r s : Int) (es : List Ed) (cs : List Int) : List tupF := if isGr r s es = true then (orN r s es cs 40).l else []
theorem specNewV (w : World) (v k d : Int) (hv : -9223372036854775807 ≤ v ∧ v ≤ 9223372036854775807) (hk : -9223372036854775807 ≤ k ∧ k ≤ 9223372036854775807) :
 Calls Tryz.prog 205 #[.int .i64 v, .agg #[.int .i64 k, .int .i64 d]] w (LwInt w (newV k d v)) := by
 obtain ⟨w1, hw1⟩ := exq (w.alloc (.cells #[.int .i64 k, .int .i64 d] 167))
 have hb1 : Below w.heap.size w w1 := by rw [hw1]; exact (Below.refl _ _).alloc (Nat.le_refl _) _
 have hk1 := heap_alloc_new w (.cells #[.int .i64 k, .int .i64 d] 167)
 rw [← hw1] at hk1
 have c0 := cell_of_heap hk1 0
 have c1 := cell_of_heap hk1 1
 simp at c0 c1
 obtain ⟨R, hR⟩ := exq (newV k d v)
 rw [← hR]
 replace hk1 := hidI hk1
 by_cases h1 : v = d
 · have t1 : (v == d) = true := by rw [beq_iff_eq]; exact h1
   by_cases h2 : k > d
   · have hsub : IntKind.i64.wrap (k - 1) = k - 1 := IntWalk.i64_in _ (by omega)
     have hRe : R = k - 1 := by rw [hR]; unfold newV; rw [if_pos h1, if_pos h2]
     have hr : LwInt w R (.returned (.int .i64 (k - 1))) w1 := ⟨ret_i hRe.symm, hb1⟩
     replace hR := hidI hR
     replace hRe := hidI hRe
     replace hr := hidI hr
     replace h1 := hidI h1
     go_enter Tryz.func205, Tryz.ntmps205
     go_wp2_with fail
     rw [← hw1]
     replace hw1 := hidI hw1
     go_wp2
     go_ret
     exact hr.out
   · have hRe : R = k := by rw [hR]; unfold newV; rw [if_pos h1, if_neg h2]
     have hr : LwInt w R (.returned (.int .i64 k)) w1 := ⟨ret_i hRe.symm, hb1⟩
     replace hR := hidI hR
     replace hRe := hidI hRe
     replace hr := hidI hr
     replace h1 := hidI h1
     go_enter Tryz.func205, Tryz.ntmps205
     go_wp2_with fail
     rw [← hw1]
     replace hw1 := hidI hw1
     go_wp2
     go_ret
     exact hr.out
 · have t1 : (v == d) = false := by rw [beq_eq_false_iff_ne]; exact h1
   by_cases h2 : v > d
   · have hsub : IntKind.i64.wrap (v - 1) = v - 1 := IntWalk.i64_in _ (by omega)
     have hRe : R = v - 1 := by rw [hR]; unfold newV; rw [if_neg h1, if_pos h2]
     have hr : LwInt w R (.returned (.int .i64 (v - 1))) w1 := ⟨ret_i hRe.symm, hb1⟩
     replace hR := hidI hR
     replace hRe := hidI hRe
     replace hr := hidI hr
     replace h1 := hidI h1
     go_enter Tryz.func205, Tryz.ntmps205
     go_wp2_with fail
     rw [← hw1]
     replace hw1 := hidI hw1
     go_wp2
     go_ret
     exact hr.out
   · have hRe : R = v := by rw [hR]; unfold newV; rw [if_neg h1, if_neg h2]
     have hr : LwInt w R (.returned (.int .i64 v)) w1 := ⟨ret_i hRe.symm, hb1⟩
     replace hR := hidI hR
     replace hRe := hidI hRe
     replace hr := hidI hr
     replace h1 := hidI h1
     go_enter Tryz.func205, Tryz.ntmps205
     go_wp2_with fail
     rw [← hw1]
     replace hw1 := hidI hw1
     go_wp2
     go_ret
     exact hr.out
def LwFolds (w : World) (l : List tupF) (e : Ending) (w' : World) : Prop :=
 ∃ a cap, e = .returned (.slice a l.length cap) ∧ RowS 167 2 w' w.heap.size w'.heap.size (.slice a l.length cap) l.length (flatF l) ∧ Below w.heap.size w w'
theorem grown_cell {w w' : World} {X : Obj} {v val : Value} {b j : Nat} (h : w.cell? ⟨b, j, none⟩ = some val) (hg : (w.alloc X).grownBy w' v.ownBlock) (hb : b < w.heap.size) (hne : v.ownBlock ≠ some b) : w'.cell? ⟨b, j, none⟩ = some val :=
 (World.cell?_of_block (w := w) (by show w'.heap[b]? = w.heap[b]?; rw [hg.block b (by simp; omega) (fun e => hne e.symm), heap_alloc_old _ _ hb])).trans h
theorem allF_next {es : List Ed} {k : Nat} : allF es (k + 1) = allF es k ++ rowF es k (es.length - (k + 1)) := rfl
set_option maxRecDepth 100000 in
set_option maxHeartbeats 6400000 in
theorem specFolds (w : World) (r s : Int) (v : Value) (es : List Ed) (h : ReadE w.heap.size w v es) (hl : es.length ≤ 1048576) :
 Calls Tryz.prog 204 #[.agg #[.int .i64 r, .int .i64 s, v]] w (LwFolds w (foldsF es)) := by
 obtain ⟨a, cap, rfl, hnc⟩ := h.form
 obtain ⟨n, hn⟩ := exq es.length
 have hnn : 2 * (n * n) ≤ 2199023255552 := by
  have : n * n ≤ 1048576 * 1048576 := Nat.mul_le_mul (by omega) (by omega)
  omega
 rw [← hn] at hl hnc ⊢
 rw [← hn] at h
 obtain ⟨w0, hw0⟩ := exq (w.alloc (.cells #[.int .i64 r, .int .i64 s, .slice a n cap] 26))
 have hb0 : Below w.heap.size w w0 := by rw [hw0]; exact (Below.refl _ _).alloc (Nat.le_refl _) _
 have hs0 : w.heap.size < w0.heap.size := by rw [hw0]; simp
 obtain ⟨g0, g1, g2⟩ := box3 hw0
 have hrd := hidI (h.below hb0)
 obtain ⟨w1, hw1⟩ := exq (w0.alloc (.cells #[] 167))
 have hown0 : Hid (OwnsF w1 w0.heap.size (.slice (some ⟨w0.heap.size, 0, none⟩) 0 0) (allF es 0)) := by rw [hw1]; exact hidI (OwnsF.litF w0)
 have hbb0 := hidI (show Below w0.heap.size w0 w1 by rw [hw1]; exact (Below.refl _ _).alloc (Nat.le_refl _) _)
 have hA := fun k (hk : k ≤ es.length) => allF_length es k hk
 have hR := rowF_length es
 obtain ⟨R, hRR⟩ := exq (foldsF es)
 rw [← hRR]
 have hfin : allF es n = R := by rw [hRR, hn]; rfl
 replace hfin := hidI hfin
 replace hRR := hidI hRR
 replace hA := hidI hA
 replace hR := hidI hR
 replace hn := hidI hn
 replace h := hidI h
 clear g0 g1
 go_enter Tryz.func204, Tryz.ntmps204
 go_upto_region 1 with fail
 rw [← hw0]
 replace hw0 := hidI hw0
 go_upto_region 2 with fail
 rw [← hw1]
 replace hw1 := hidI hw1
 go_wp2
 go_loopg [3, 4, 5, 6, 7] n (fun g o i q5 q6 q7 wr => ∃ k : Nat, k + g = n ∧ i = .int .i64 k ∧ Hid (OwnsF wr w0.heap.size o (allF es k)) ∧ Hid (Below w0.heap.size w0 wr))
 case atStart => exact ⟨0, by omega, rfl, hown0, hbb0⟩
 case round =>
  clear hown0 hbb0
  obtain ⟨k, hk, rfl, hown, hb⟩ := hrel
  have p2 := below_cell g2 hb.out hs0
  obtain ⟨a3, m3, c3, rfl⟩ := hown.out.form3
  by_cases hlt : k < n
  · have hki : (k : Int) < (n : Int) := by omega
    have hin0 := hidI (show OwnsF wr w0.heap.size (.slice a3 m3 c3) (allF es k ++ rowF es k 0) by rw [rowF, List.append_nil]; exact hown.out)
    obtain ⟨M, hM⟩ := exq (n - (k + 1))
    have hAk : (allF es k).length ≤ 2 * (k * n) := by have := hA.out k (by have := hn.out; omega); rw [← hn.out] at this; exact this
    have hkn : k * n + n ≤ n * n := by
     have : (k + 1) * n ≤ n * n := Nat.mul_le_mul_right _ (by omega)
     rw [Nat.succ_mul] at this; omega
    replace hM := hidI hM
    replace hk := hidI hk
    clear hown
    go_wp2
    go_loopg [3, 5, 6, 7] M (fun g o kk q6 q7 wr => ∃ d : Nat, d + g = M ∧ kk = .int .i64 ((k : Int) + 1 + d) ∧ Hid (OwnsF wr w0.heap.size o (allF es k ++ rowF es k d)) ∧ Hid (Below w0.heap.size w0 wr))
    case atStart => exact ⟨0, by omega, by simp, hin0, hb⟩
    case round =>
     clear hin0 hb p2
     obtain ⟨d, hd, rfl, hown, hb⟩ := hrel
     have p2 := below_cell g2 hb.out hs0
     obtain ⟨a3, m3, c3, rfl⟩ := hown.out.form3
     by_cases hlt2 : d < M
     · have hkd : k + 1 + d < n := by have := hM.out; omega
       have hdi : (k : Int) + 1 + (d : Int) < (n : Int) := by omega
       have hread := hrd.out.below (hb.out.mono (Nat.le_of_lt hs0))
       obtain ⟨b, off, hab, hB, x0, x1, x2⟩ := ReadE.at3 hread k (by have := hn.out; omega)
       obtain ⟨b', off', hab', hB', y0, y1, y2⟩ := ReadE.at3 hread (k + 1 + d) (by have := hn.out; omega)
       subst hab
       simp only [Option.some.injEq, Addr.mk.injEq, and_true] at hab'
       obtain ⟨rfl, rfl⟩ := hab'
       have hnx : allF es k ++ rowF es k (d + 1) = (allF es k ++ rowF es k d) ++ pairF (es.getD k e0) (es.getD (k + 1 + d) e0) := by rw [rowF, List.append_assoc]
       obtain ⟨L, hL⟩ := exq (allF es k ++ rowF es k d)
       have hLl : L.length ≤ 3000000000000 := by
        have := hR.out k d
        rw [hL, List.length_append]
        have := hM.out
        omega
       rw [← hL] at hown hnx
       obtain ⟨f, hf⟩ := exq ((es.getD k e0).1)
       obtain ⟨l, hll⟩ := exq ((es.getD k e0).2.1)
       obtain ⟨t, ht⟩ := exq ((es.getD k e0).2.2)
       obtain ⟨f', hf'⟩ : ∃ z, z = (es.getD (k + 1 + d) e0).1 := ⟨_, rfl⟩
       obtain ⟨l', hll'⟩ : ∃ z, z = (es.getD (k + 1 + d) e0).2.1 := ⟨_, rfl⟩
       obtain ⟨t', ht'⟩ : ∃ z, z = (es.getD (k + 1 + d) e0).2.2 := ⟨_, rfl⟩
       rw [← hf] at x0
       rw [← hll] at x1
       rw [← ht] at x2
       rw [← hf'] at y0
       rw [← hll'] at y1
       rw [← ht'] at y2
       have hnx2 : allF es k ++ rowF es k (d + 1) = L ++ pairF (f, l, t) (f', l', t') := by rw [hnx, hf, hll, ht, hf', hll', ht']
       have hidx : off + (k + 1 + d) * 3 = off + (k + 1 + d) * 3 := rfl
       obtain ⟨w2, hw2⟩ := exq (wr.alloc (.cells #[.int .i64 f, .int .i64 l, .int .i64 t] 72))
       have hb2 : Below wr.heap.size wr w2 := by rw [hw2]; exact (Below.refl _ _).alloc (Nat.le_refl _) _
       have hs2 : w2.heap.size = wr.heap.size + 1 := by rw [hw2]; simp
       obtain ⟨a0, a1, a2⟩ := box3 hw2
       obtain ⟨w3, hw3⟩ := exq (w2.alloc (.cells #[.int .i64 f', .int .i64 l', .int .i64 t'] 72))
       have hb3 : Below w2.heap.size w2 w3 := by rw [hw3]; exact (Below.refl _ _).alloc (Nat.le_refl _) _
       obtain ⟨b0, b1, b2⟩ := box3 hw3
       have hs3 : w3.heap.size = w2.heap.size + 1 := by rw [hw3]; simp
       have hlta : wr.heap.size < w2.heap.size := by omega
       replace a0 := below_cell a0 hb3 hlta
       replace a1 := below_cell a1 hb3 hlta
       replace a2 := below_cell a2 hb3 hlta
       have hb23 : Below wr.heap.size wr w3 := hb2.trans (hb3.mono (by omega))
       have hwlt := World.ownsRow.lt hown.out
       have hown3 := hidI (hown.out.later hb23 (Nat.le_refl _))
       have hbz := hidI (show Below w0.heap.size w0 w3 from hb.out.trans (hb23.mono hb.out.size))
       have hneA : Value.ownBlock (.slice a3 m3 c3) ≠ some wr.heap.size := fun e => by have := (hwlt _ e).2; omega
       have hneB : Value.ownBlock (.slice a3 m3 c3) ≠ some w2.heap.size := fun e => by have := (hwlt _ e).2; omega
       have hltb : w2.heap.size < w3.heap.size := by omega
       have hlta3 : wr.heap.size < w3.heap.size := by omega
       have y0' := below_cell y0 hb2 (by have := hb.out.size; omega)
       have y1' := below_cell y1 hb2 (by have := hb.out.size; omega)
       have y2' := below_cell y2 hb2 (by have := hb.out.size; omega)
       have p2' := below_cell p2 hb2 (by have := hb.out.size; omega)
       replace hf := hidI hf
       replace hll := hidI hll
       replace ht := hidI ht
       replace hf' := hidI hf'
       replace hll' := hidI hll'
       replace ht' := hidI ht'
       replace hnx := hidI hnx
       replace hnx2 := hidI hnx2
       replace hL := hidI hL
       replace hd := hidI hd
       replace hread := hidI hread
       replace hwlt := hidI hwlt
       replace hneA := hidI hneA
       replace hneB := hidI hneB
       replace hs2 := hidI hs2
       replace hs3 := hidI hs3
       replace hb2 := hidI hb2
       replace hb3 := hidI hb3
       replace hb23 := hidI hb23
       go_upto_region 9 with fail
       rw [← hw2]
       replace hw2 := hidI hw2
       go_upto_region 10 with fail
       rw [← hw3]
       replace hw3 := hidI hw3
       clear y0' y1' y2' p2' x0 x1 x2 y0 y1 y2
       by_cases q1 : l = l'
       case neg =>
        have q1t : (l == l') = false := by rw [beq_eq_false_iff_ne]; exact q1
        have hpf : pairF (f, l, t) (f', l', t') = [] := by unfold pairF; rw [if_neg (fun h => q1 h.1), if_neg (fun h => q1 h.1)]; rfl
        replace hpf := hidI hpf
        replace q1 := hidI q1
        have hown9 := hidI (show OwnsF _ w0.heap.size _ (allF es k ++ rowF es k (d + 1)) by rw [hnx2.out]; rw [hpf.out, List.append_nil]; exact hown3.out)
        go_wp2
        go_roundg (M - (d + 1))
        case rel => exact ⟨d + 1, by have := hd.out; omega, by go_num, hown9, hbz⟩
        case measure => have := hd.out; omega
       have q1t : (l == l') = true := by rw [beq_iff_eq]; exact q1
       by_cases q2 : f = f'
       case pos =>
        by_cases q3 : t = t'
        case pos =>
         subst q2 q3
         have q2t : (f == f) = true := by simp
         have q3t : (t == t) = true := by simp
         have hpf : pairF (f, l, t) (f, l', t) = [(t, t), (f, f)] := by unfold pairF; rw [if_pos ⟨q1, rfl⟩, if_pos ⟨q1, rfl⟩]; simp
         replace hpf := hidI hpf
         replace q1 := hidI q1
         go_wp2_with (at_builtin; go_must (refine wpList_pushF_at rfl _ _ rfl w0.heap.size (.slice a3 m3 c3) L _ _ rfl rfl (by exact hown3.out) (by omega) hbz.out.size ?_))
         intro v4 w4 hown4 hg4 hloc4
         obtain ⟨a4, m4, c4, rfl⟩ := hown4.form3
         have hown4 := hidI hown4
         have hbz4 := hidI (show Below w0.heap.size w0 w4 from (hbz.out.alloc hbz.out.size _).grown hg4 (by have := hbz.out.size; simp; omega) (fun q hq => (World.ownsRow.lt hown3.out q hq).1))
         replace a0 := grown_cell a0 hg4 hlta3 hneA.out
         replace a1 := grown_cell a1 hg4 hlta3 hneA.out
         replace a2 := grown_cell a2 hg4 hlta3 hneA.out
         replace b0 := grown_cell b0 hg4 hltb hneB.out
         replace b1 := grown_cell b1 hg4 hltb hneB.out
         replace b2 := grown_cell b2 hg4 hltb hneB.out
         clear hg4 hloc4
         go_wp2_with (at_builtin; go_must (refine wpList_pushF rfl _ _ rfl w0.heap.size _ (L ++ [(t, t)]) _ _ rfl rfl (by exact hown4.out) (by simp; omega) hbz4.out.size ?_))
         intro v5 w5 hown5 hb5
         obtain ⟨a5, m5, c5, rfl⟩ := hown5.form3
         have hown5 := hidI hown5
         replace hb5 := hidI (hbz4.out.trans hb5)
         have hown9 := hidI (show OwnsF _ w0.heap.size _ (allF es k ++ rowF es k (d + 1)) by rw [hnx2.out]; rw [hpf.out]; (try rw [List.append_nil]); skip; exact hown5.out)
         go_wp2
         go_roundg (M - (d + 1))
         case rel => exact ⟨d + 1, by have := hd.out; omega, by go_num, hown9, hb5⟩
         case measure => have := hd.out; omega
        subst q2
        have q2t : (f == f) = true := by simp
        have q3t : (t == t') = false := by rw [beq_eq_false_iff_ne]; exact q3
        rcases Int.lt_or_gt_of_ne q3 with hc | hc
        · have hpf : pairF (f, l, t) (f, l', t') = [(t, t')] := by unfold pairF; rw [if_pos ⟨q1, rfl⟩, if_neg (fun h => q3 h.2)]; simp only [List.append_nil]; rw [show min t t' = t by omega, show max t t' = t' by omega]
          replace q3 := hidI q3
          replace hpf := hidI hpf
          replace q1 := hidI q1
          go_wp2_with (at_builtin; go_must (refine wpList_pushF_at rfl _ _ rfl w0.heap.size (.slice a3 m3 c3) L _ _ rfl rfl (by exact hown3.out) (by omega) hbz.out.size ?_))
          intro v4 w4 hown4 hg4 hloc4
          obtain ⟨a4, m4, c4, rfl⟩ := hown4.form3
          have hown4 := hidI hown4
          have hbz4 := hidI (show Below w0.heap.size w0 w4 from (hbz.out.alloc hbz.out.size _).grown hg4 (by have := hbz.out.size; simp; omega) (fun q hq => (World.ownsRow.lt hown3.out q hq).1))
          replace a0 := grown_cell a0 hg4 hlta3 hneA.out
          replace a1 := grown_cell a1 hg4 hlta3 hneA.out
          replace a2 := grown_cell a2 hg4 hlta3 hneA.out
          replace b0 := grown_cell b0 hg4 hltb hneB.out
          replace b1 := grown_cell b1 hg4 hltb hneB.out
          replace b2 := grown_cell b2 hg4 hltb hneB.out
          clear hg4 hloc4
          have hown9 := hidI (show OwnsF _ w0.heap.size _ (allF es k ++ rowF es k (d + 1)) by rw [hnx2.out]; rw [hpf.out]; (try rw [List.append_nil]); skip; exact hown4.out)
          go_wp2
          go_roundg (M - (d + 1))
          case rel => exact ⟨d + 1, by have := hd.out; omega, by go_num, hown9, hbz4⟩
          case measure => have := hd.out; omega
        · have hpf : pairF (f, l, t) (f, l', t') = [(t', t)] := by unfold pairF; rw [if_pos ⟨q1, rfl⟩, if_neg (fun h => q3 h.2)]; simp only [List.append_nil]; rw [show min t t' = t' by omega, show max t t' = t by omega]
          replace q3 := hidI q3
          replace hpf := hidI hpf
          replace q1 := hidI q1
          go_wp2_with (at_builtin; go_must (refine wpList_pushF_at rfl _ _ rfl w0.heap.size (.slice a3 m3 c3) L _ _ rfl rfl (by exact hown3.out) (by omega) hbz.out.size ?_))
          intro v4 w4 hown4 hg4 hloc4
          obtain ⟨a4, m4, c4, rfl⟩ := hown4.form3
          have hown4 := hidI hown4
          have hbz4 := hidI (show Below w0.heap.size w0 w4 from (hbz.out.alloc hbz.out.size _).grown hg4 (by have := hbz.out.size; simp; omega) (fun q hq => (World.ownsRow.lt hown3.out q hq).1))
          replace a0 := grown_cell a0 hg4 hlta3 hneA.out
          replace a1 := grown_cell a1 hg4 hlta3 hneA.out
          replace a2 := grown_cell a2 hg4 hlta3 hneA.out
          replace b0 := grown_cell b0 hg4 hltb hneB.out
          replace b1 := grown_cell b1 hg4 hltb hneB.out
          replace b2 := grown_cell b2 hg4 hltb hneB.out
          clear hg4 hloc4
          have hown9 := hidI (show OwnsF _ w0.heap.size _ (allF es k ++ rowF es k (d + 1)) by rw [hnx2.out]; rw [hpf.out]; (try rw [List.append_nil]); skip; exact hown4.out)
          go_wp2
          go_roundg (M - (d + 1))
          case rel => exact ⟨d + 1, by have := hd.out; omega, by go_num, hown9, hbz4⟩
          case measure => have := hd.out; omega
       have q2t : (f == f') = false := by rw [beq_eq_false_iff_ne]; exact q2
       by_cases q3 : t = t'
       case pos =>
        subst q3
        have q3t : (t == t) = true := by simp
        rcases Int.lt_or_gt_of_ne q2 with hc | hc
        · have hpf : pairF (f, l, t) (f', l', t) = [(f, f')] := by unfold pairF; rw [if_neg (fun h => q2 h.2), if_pos ⟨q1, rfl⟩]; simp only [List.nil_append]; rw [show min f f' = f by omega, show max f f' = f' by omega]
          replace q2 := hidI q2
          replace hpf := hidI hpf
          replace q1 := hidI q1
          go_wp2_with (at_builtin; go_must (refine wpList_pushF rfl _ _ rfl w0.heap.size _ L _ _ rfl rfl (by exact hown3.out) (by omega) hbz.out.size ?_))
          intro v5 w5 hown5 hb5
          obtain ⟨a5, m5, c5, rfl⟩ := hown5.form3
          have hown5 := hidI hown5
          replace hb5 := hidI (hbz.out.trans hb5)
          have hown9 := hidI (show OwnsF _ w0.heap.size _ (allF es k ++ rowF es k (d + 1)) by rw [hnx2.out]; rw [hpf.out]; (try rw [List.append_nil]); skip; exact hown5.out)
          go_wp2
          go_roundg (M - (d + 1))
          case rel => exact ⟨d + 1, by have := hd.out; omega, by go_num, hown9, hb5⟩
          case measure => have := hd.out; omega
        · have hpf : pairF (f, l, t) (f', l', t) = [(f', f)] := by unfold pairF; rw [if_neg (fun h => q2 h.2), if_pos ⟨q1, rfl⟩]; simp only [List.nil_append]; rw [show min f f' = f' by omega, show max f f' = f by omega]
          replace q2 := hidI q2
          replace hpf := hidI hpf
          replace q1 := hidI q1
          go_wp2_with (at_builtin; go_must (refine wpList_pushF rfl _ _ rfl w0.heap.size _ L _ _ rfl rfl (by exact hown3.out) (by omega) hbz.out.size ?_))
          intro v5 w5 hown5 hb5
          obtain ⟨a5, m5, c5, rfl⟩ := hown5.form3
          have hown5 := hidI hown5
          replace hb5 := hidI (hbz.out.trans hb5)
          have hown9 := hidI (show OwnsF _ w0.heap.size _ (allF es k ++ rowF es k (d + 1)) by rw [hnx2.out]; rw [hpf.out]; (try rw [List.append_nil]); skip; exact hown5.out)
          go_wp2
          go_roundg (M - (d + 1))
          case rel => exact ⟨d + 1, by have := hd.out; omega, by go_num, hown9, hb5⟩
          case measure => have := hd.out; omega
       have q3t : (t == t') = false := by rw [beq_eq_false_iff_ne]; exact q3
       have hpf : pairF (f, l, t) (f', l', t') = [] := by unfold pairF; rw [if_neg (fun h => q2 h.2), if_neg (fun h => q3 h.2)]; rfl
       replace q2 := hidI q2
       replace q3 := hidI q3
       replace hpf := hidI hpf
       replace q1 := hidI q1
       have hown9 := hidI (show OwnsF _ w0.heap.size _ (allF es k ++ rowF es k (d + 1)) by rw [hnx2.out]; rw [hpf.out]; (try rw [List.append_nil]); skip; exact hown3.out)
       go_wp2
       go_roundg (M - (d + 1))
       case rel => exact ⟨d + 1, by have := hd.out; omega, by go_num, hown9, hbz⟩
       case measure => have := hd.out; omega
     · have hdi : ¬ (k : Int) + 1 + (d : Int) < (n : Int) := by have := hM.out; omega
       obtain rfl : d = M := by omega
       have hown9 := hidI (show OwnsF wr w0.heap.size (.slice a3 m3 c3) (allF es (k + 1)) by rw [allF_next, ← hn.out, ← hM.out]; exact hown.out)
       replace hd := hidI hd
       go_wp2
       go_roundg (n - (k + 1))
       case rel => exact ⟨k + 1, by have := hk.out; omega, by go_num, hown9, hb⟩
       case measure => have := hk.out; omega
  · obtain rfl : k = n := by omega
    have hki : ¬ (k : Int) < (k : Int) := by omega
    have hr : LwFolds w R (.returned (.slice a3 m3 c3)) wr := by
     rw [hfin.out] at hown
     have hRl : R.length ≤ 4000000000000 := by
      have := foldsF_length es
      rw [hRR.out]
      rw [← hn.out] at this
      omega
     have hrow := OwnsS.row hown.out hRl
     have hm := hrow.cap.1
     subst hm
     exact ⟨_, _, rfl, hrow.wide (Nat.le_of_lt hs0) (Nat.le_refl _), hb0.trans (hb.out.mono hb0.size)⟩
    replace hr := hidI hr
    replace hk := hidI hk
    go_wp2
    go_ret
    exact hr.out
def LwFoldBool (w : World) (f : tupF) (b : Bool) (e : Ending) (w' : World) : Prop := e = .returned (.tuple #[.agg #[.int .i64 f.1, .int .i64 f.2], .bool b]) ∧ Below w.heap.size w w'
theorem set2F {w : World} {g : Nat} {T : TypeId} {x0 x1 : Value} (h : w.heap[g]? = some (.cells #[x0, x1] T (0, 0))) (v0 v1 : Value) :
 ((w.setCell ⟨g, 0, none⟩ v0).setCell ⟨g, 1, none⟩ v1).heap[g]? = some (.cells #[v0, v1] T (0, 0)) := by
 have h3 := heap_setCell_same _ g 1 _ T v1 (heap_setCell_same w g 0 _ T v0 h)
 simpa using h3
set_option maxRecDepth 100000 in
set_option maxHeartbeats 3200000 in
theorem specFirst (w : World) (r s : Int) (v : Value) (es : List Ed) (h : ReadE w.heap.size w v es) (hs : -9223372036854775808 ≤ s ∧ s ≤ 9223372036854775807) (hl : es.length ≤ 100000000) :
 Calls Tryz.prog 188 #[.agg #[.int .i64 r, .int .i64 s, v]] w (LwFoldBool w (ffF r s es) (ffB r s es)) := by
 obtain ⟨a, cap, rfl, hnc⟩ := h.form
 obtain ⟨n, hn⟩ := exq es.length
 rw [← hn] at hl hnc ⊢
 rw [← hn] at h
 obtain ⟨w0, hw0⟩ := exq (w.alloc (.cells #[.int .i64 r, .int .i64 s, .slice a n cap] 26))
 have hb0 : Below w.heap.size w w0 := by rw [hw0]; exact (Below.refl _ _).alloc (Nat.le_refl _) _
 have hs0 : w0.heap.size = w.heap.size + 1 := by rw [hw0]; simp
 obtain ⟨g0, g1, g2⟩ := box3 hw0
 obtain ⟨w1, hw1⟩ := exq (w0.alloc (.cells #[.int .i64 0, .int .i64 0] 167))
 have hb01 : Below w0.heap.size w0 w1 := by rw [hw1]; exact (Below.refl _ _).alloc (Nat.le_refl _) _
 have hs1 : w1.heap.size = w.heap.size + 1 + 1 := by rw [hw1]; simp; omega
 have hk1 := heap_alloc_new w0 (.cells #[.int .i64 0, .int .i64 0] 167)
 rw [← hw1, hs0] at hk1
 have hlt0 : w.heap.size < w0.heap.size := by omega
 replace g0 := below_cell g0 hb01 hlt0
 replace g1 := below_cell g1 hb01 hlt0
 replace g2 := below_cell g2 hb01 hlt0
 have hb1 : Below w.heap.size w w1 := hb0.trans (hb01.mono (by omega))
 have his := specIsGr w1 r s (.slice a n cap) es ((h.below hb1).mono hb1.size) hs (by omega)
 obtain ⟨B, hB⟩ := exq (isGr r s es)
 rw [← hB] at his
 obtain ⟨F, hF⟩ := exq (ffF r s es)
 obtain ⟨C, hC⟩ := exq (ffB r s es)
 rw [← hF, ← hC]
 have hno : C = false → F = zeroF := fun h => by rw [hF]; unfold ffF; rw [← hC, h]; rfl
 have hC0 : B = false → C = false := fun h => by rw [hC]; unfold ffB; rw [← hB, h]; rfl
 have hC1 : (foldsF es).length = 0 → C = false := fun h => by rw [hC]; unfold ffB; rw [h]; simp
 have hC2 : B = true → (foldsF es).length ≠ 0 → C = true ∧ F = (foldsF es).getD 0 zeroF := fun h1 h2 => by
  have hc : C = true := by rw [hC]; unfold ffB; rw [← hB, h1, decide_eq_true h2]; rfl
  exact ⟨hc, by rw [hF]; unfold ffF; rw [← hC, hc]; rfl⟩
 have hend : ∀ (W : World) (x y : Int), Below w.heap.size w W → Below w.heap.size w ((W.setCell ⟨w.heap.size + 1, 0, none⟩ (.int .i64 x)).setCell ⟨w.heap.size + 1, 1, none⟩ (.int .i64 y)) := fun W x y hW =>
  (hW.setCell (p := ⟨w.heap.size + 1, 0, none⟩) (by simp) _).setCell (p := ⟨w.heap.size + 1, 1, none⟩) (by simp) _
 replace hno := hidI hno
 replace hC0 := hidI hC0
 replace hC1 := hidI hC1
 replace hC2 := hidI hC2
 replace hF := hidI hF
 replace hC := hidI hC
 replace hn := hidI hn
 replace h := hidI h
 replace hk1 := hidI hk1
 replace hend := hidI hend
 have hww : (w.alloc (.cells #[.int .i64 r, .int .i64 s, .slice a n cap] 26)).alloc (.cells #[.int .i64 0, .int .i64 0] 167) = w1 := by rw [hw1, hw0]
 replace hww := hidI hww
 replace hw0 := hidI hw0
 replace hw1 := hidI hw1
 replace hs0 := hidI hs0
 replace hs1 := hidI hs1
 clear hb01
 go_enter Tryz.func188, Tryz.ntmps188
 go_upto_region 1 with fail
 rw [hww.out]
 go_wp2_with fail
 refine his.mono ?_
 rintro e w2 ⟨rfl, hb2⟩
 clear his
 have hlt1 : w.heap.size < w1.heap.size := by have := hs1.out; omega
 replace g0 := below_cell g0 hb2 hlt1
 replace g1 := below_cell g1 hb2 hlt1
 replace g2 := below_cell g2 hb2 hlt1
 have hk2 := hidI (show w2.heap[w.heap.size + 1]? = some (.cells #[.int .i64 0, .int .i64 0] 167 (0, 0)) by rw [hb2.block _ (by have := hs1.out; omega)]; exact hk1.out)
 have hb12 := hidI (hb1.trans (hb2.mono hb1.size))
 cases B with
 | false =>
  have hCf := hC0.out rfl
  have hFz := hno.out hCf
  have y0 := cell_of_heap hk2.out 0
  have y1 := cell_of_heap hk2.out 1
  have f1 := fun j => frozen_of_row w2 (w.heap.size + 1) j _ _ hk2.out
  simp at y0 y1
  have hr := hidI (hend.out w2 0 0 hb12.out)
  have hset := hidI (set2F hk2.out (.int .i64 0) (.int .i64 0))
  subst hCf
  replace hFz := hidI hFz
  replace hB := hidI hB
  go_wp2
  (try simp only [Exit.inBlock, Exit.then])
  refine ret_cell2 (x := .bool false) rfl rfl rfl hset.out Tryz.underlying167 sizeFold ?_
  exact ⟨by rw [hFz.out]; rfl, hr.out⟩
 | true =>
  have h120 : n ≤ 120 := by rw [hn.out]; exact (isGr_iff.1 hB.symm).2.2.2.2.2
  have hcf := specFolds w2 r s (.slice a n cap) es ((h.out.below hb12.out).mono hb12.out.size) (by have := hn.out; omega)
  obtain ⟨L, hL⟩ := exq (foldsF es)
  rw [← hL] at hcf
  have hC3 := hC2.out rfl
  have hC4 := hC1.out
  rw [← hL] at hC3 hC4
  replace hB := hidI hB
  replace hL := hidI hL
  replace hC3 := hidI hC3
  replace hC4 := hidI hC4
  go_wp2_with fail
  refine hcf.mono ?_
  rintro e w3 ⟨aL, capL, rfl, hrow, hb3⟩
  clear hcf
  have hlt2 : w.heap.size + 1 < w2.heap.size := by have := hs1.out; have := hb2.size; omega
  have hk3 := hidI (show w3.heap[w.heap.size + 1]? = some (.cells #[.int .i64 0, .int .i64 0] 167 (0, 0)) by rw [hb3.block _ hlt2]; exact hk2.out)
  have hb13 := hidI (hb12.out.trans (hb3.mono hb12.out.size))
  have y0 := cell_of_heap hk3.out 0
  have y1 := cell_of_heap hk3.out 1
  have f1 := fun j => frozen_of_row w3 (w.heap.size + 1) j _ _ hk3.out
  simp at y0 y1
  obtain ⟨nL, hnL⟩ := exq L.length
  rw [← hnL] at hrow ⊢
  clear g0 g1 g2
  by_cases h0 : nL = 0
  · have hCf := hC4.out (by rw [← hnL]; exact h0)
    have hFz := hno.out hCf
    have t0 : ((nL : Int) == 0) = true := by rw [beq_iff_eq]; omega
    have hr := hidI (hend.out w3 0 0 hb13.out)
    have hset := hidI (set2F hk3.out (.int .i64 0) (.int .i64 0))
    subst hCf
    replace hFz := hidI hFz
    replace hnL := hidI hnL
    replace h0 := hidI h0
    replace hrow := hidI hrow
    go_wp2
    (try simp only [Exit.inBlock, Exit.then])
    refine ret_cell2 (x := .bool false) rfl rfl rfl hset.out Tryz.underlying167 sizeFold ?_
    exact ⟨by rw [hFz.out]; rfl, hr.out⟩
  · obtain ⟨hCt, hFe⟩ := hC3.out (by rw [← hnL]; exact h0)
    have t0 : ((nL : Int) == 0) = false := by rw [beq_eq_false_iff_ne]; omega
    have hrd : ReadF w3.heap.size w3 (.slice aL nL capL) L := by
     have := hrow.read
     rw [hnL] at this ⊢
     exact this
    obtain ⟨b, off, haL, hbB, c0, c1⟩ := ReadF.cells hrd 0 (by omega)
    subst haL
    rw [← hFe] at c0 c1
    simp only [Nat.zero_mul, Nat.add_zero] at c0 c1
    have hpos : (0 : Int) < (nL : Int) := by omega
    obtain ⟨k, d⟩ := F
    simp only at c0 c1
    have hr := hidI (hend.out w3 k d hb13.out)
    have hset := hidI (set2F hk3.out (.int .i64 k) (.int .i64 d))
    subst hCt
    replace hFe := hidI hFe
    replace hnL := hidI hnL
    replace h0 := hidI h0
    replace hrow := hidI hrow
    replace hrd := hidI hrd
    go_wp2
    (try simp only [Exit.inBlock, Exit.then])
    refine ret_cell2 (x := .bool true) rfl rfl rfl hset.out Tryz.underlying167 sizeFold ?_
    exact ⟨rfl, hr.out⟩
def LwGraphFoldBool (w : World) (r s : Int) (es : List Ed) (f : tupF) (b : Bool) (e : Ending) (w' : World) : Prop :=
 ∃ a cap, e = .returned (.tuple #[.agg #[.int .i64 r, .int .i64 s, .slice a es.length cap], .agg #[.int .i64 f.1, .int .i64 f.2], .bool b]) ∧ RowS 72 3 w' w.heap.size w'.heap.size (.slice a es.length cap) es.length (flatE es) ∧ Below w.heap.size w w'
def LwGraphFolds (w : World) (r s : Int) (es : List Ed) (l : List tupF) (e : Ending) (w' : World) : Prop :=
 ∃ (a : Option Addr) (cap : Nat) (v : Value) (glo ghi flo fhi : Nat), e = .returned (.tuple #[.agg #[.int .i64 r, .int .i64 s, .slice a es.length cap], v]) ∧
  (w.heap.size ≤ glo ∧ glo ≤ ghi ∧ ghi ≤ w'.heap.size ∧ w.heap.size ≤ flo ∧ flo ≤ fhi ∧ fhi ≤ w'.heap.size ∧ (ghi ≤ flo ∨ fhi ≤ glo)) ∧
  RowS 72 3 w' glo ghi (.slice a es.length cap) es.length (flatE es) ∧ RowS 167 2 w' flo fhi v l.length (flatF l) ∧ Below w.heap.size w w'
end Go.Proofs.YtpjlamnjiilgbaaGreat
