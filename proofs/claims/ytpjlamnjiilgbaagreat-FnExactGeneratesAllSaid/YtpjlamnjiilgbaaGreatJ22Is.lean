import Derived.Deep.Cut
import Derived.Laws.AppendOwn
import Derived.Maps.AppendAt
import Derived.Deep.LoopGhost
import Derived.Test.YtpjlamnjiilgbaaGreatJ1Is
import Derived.Test.YtpjlamnjiilgbaaGreatDlc
namespace Go.Proofs.YtpjlamnjiilgbaaGreat
open Go.RowKit
set_option linter.unusedVariables false
set_option linter.unusedSimpArgs false
def encP : Option Nat → Value
 | none => .pointer none
 | some b => .pointer (some ⟨b, 0, none⟩)
def VSt (w : World) (S : Nat) (P : Nat → Nat) (num : Nat → Int) (par : Nat → Option Nat) : Prop :=
 ∀ i, i < S → w.heap[P i]? = some (.cells #[.int .i64 (num i), encP ((par i).map P)] 214 (0, 0))
def LSt (S : Nat) (nm : Nat → Int) (par : Nat → Option Nat) (dep : Nat → Nat) : Prop :=
 ∀ i j, i < S → par i = some j → j < S ∧ nm j = nm i ∧ dep j < dep i
structure OnP (S : Nat) (P : Nat → Nat) (w w' : World) : Prop where
 os : w'.os = w.os
 tape : w'.tape = w.tape
 output : w'.output = w.output
 size : w'.heap.size = w.heap.size
 block : ∀ b, (∀ i, i < S → b ≠ P i) → w'.heap[b]? = w.heap[b]?
theorem OnP.refl (S : Nat) (P : Nat → Nat) (w : World) : OnP S P w w := ⟨rfl, rfl, rfl, rfl, fun _ _ => rfl⟩
theorem OnP.trans {S : Nat} {P : Nat → Nat} {a b c : World} (h : OnP S P a b) (k : OnP S P b c) : OnP S P a c :=
 ⟨k.os.trans h.os, k.tape.trans h.tape, k.output.trans h.output, k.size.trans h.size, fun i hi => (k.block i hi).trans (h.block i hi)⟩
theorem OnP.set {S : Nat} {P : Nat → Nat} {w : World} {i : Nat} (hi : i < S) (c : Nat) (v : Value) : OnP S P w (w.setCell ⟨P i, c, none⟩ v) :=
 ⟨rfl, rfl, rfl, by simp [World.setCell], fun b hb => Below.heap_setCell _ _ _ _ (show b ≠ P i from hb i hi)⟩
theorem OnP.below {S : Nat} {P : Nat → Nat} {B : Nat} {w w' : World} (h : OnP S P w w') (hB : ∀ i, i < S → B ≤ P i) : Below B w w' :=
 ⟨h.os, h.tape, h.output, Nat.le_of_eq h.size.symm, fun k hk => h.block k fun i hi e => by have := hB i hi; omega⟩
theorem OnP.cell {S : Nat} {P : Nat → Nat} {w w' : World} {b j : Nat} {v : Value} (h : OnP S P w w') (hb : ∀ i, i < S → b ≠ P i) (hc : w.cell? ⟨b, j, none⟩ = some v) : w'.cell? ⟨b, j, none⟩ = some v :=
 (World.cell?_of_block (w := w) (a := ⟨b, j, none⟩) (h.block b hb)).trans hc
theorem VSt.link {w : World} {S : Nat} {P : Nat → Nat} {num : Nat → Int} {par : Nat → Option Nat} (h : VSt w S P num par) (hinj : ∀ i j, i < S → j < S → P i = P j → i = j) {i q : Nat} (hi : i < S) :
 VSt (w.setCell ⟨P i, 1, none⟩ (encP (some (P q)))) S P num (fun x => if x = i then some q else par x) := by
 intro x hx
 by_cases hxi : x = i
 · subst hxi
   have := heap_setCell_same w (P x) 1 _ _ (encP (some (P q))) (h x hx)
   simpa using this
 · rw [Below.heap_setCell _ _ _ _ (show P x ≠ P i from fun e => hxi (hinj x i hx hi e)), h x hx]
   simp [hxi]
theorem VSt.number {w : World} {S : Nat} {P : Nat → Nat} {num : Nat → Int} {par : Nat → Option Nat} (h : VSt w S P num par) (hinj : ∀ i j, i < S → j < S → P i = P j → i = j) {i : Nat} (hi : i < S) (z : Int) :
 VSt (w.setCell ⟨P i, 0, none⟩ (.int .i64 z)) S P (fun x => if x = i then z else num x) par := by
 intro x hx
 by_cases hxi : x = i
 · subst hxi
   have := heap_setCell_same w (P x) 0 _ _ (.int .i64 z) (h x hx)
   simpa using this
 · rw [Below.heap_setCell _ _ _ _ (show P x ≠ P i from fun e => hxi (hinj x i hx hi e)), h x hx]
   simp [hxi]
theorem VSt.keep {w w' : World} {S : Nat} {P : Nat → Nat} {num : Nat → Int} {par : Nat → Option Nat} (h : VSt w S P num par) (hk : ∀ i, i < S → w'.heap[P i]? = w.heap[P i]?) : VSt w' S P num par := fun i hi => (hk i hi).trans (h i hi)
def KeptRet (S : Nat) (P : Nat → Nat) (num : Nat → Int) (nm : Nat → Int) (par : Nat → Option Nat) (dep : Nat → Nat) (w : World) (i : Nat) (e : Ending) (w' : World) : Prop :=
 ∃ j par', e = .returned (encP (some (P j))) ∧ j < S ∧ par j = none ∧ nm j = nm i ∧ dep j ≤ dep i ∧ (∀ q, par' q = none ↔ par q = none) ∧ LSt S nm par' dep ∧ VSt w' S P num par' ∧ OnP S P w w'
theorem kept_any {S : Nat} {P : Nat → Nat} {num nm : Nat → Int} {dep : Nat → Nat} (hinj : ∀ i j, i < S → j < S → P i = P j → i = j) : ∀ m w par i, i < S → dep i ≤ m → VSt w S P num par → LSt S nm par dep →
 Calls Tryz.prog 209 #[encP (some (P i))] w (KeptRet S P num nm par dep w i) := by
 intro m
 induction m with
 | zero =>
  intro w par i hi hm hv hl
  have hb := hv i hi
  cases hp : par i with
  | none =>
   rw [hp] at hb
   have hr : KeptRet S P num nm par dep w i (.returned (encP (some (P i)))) w := ⟨i, par, rfl, hi, hp, rfl, Nat.le_refl _, fun _ => Iff.rfl, hl, hv, OnP.refl _ _ _⟩
   obtain ⟨b, hbb⟩ := exq (P i)
   rw [← hbb] at hb hr ⊢
   simp only [Option.map_none, encP] at hb hr ⊢
   have c0 := cell_of_heap hb 0
   have c1 := cell_of_heap hb 1
   simp at c0 c1
   replace hr := hidI hr
   replace hb := hidI hb
   replace hbb := hidI hbb
   replace hp := hidI hp
   clear hv hl hinj
   go_enter Tryz.func209, Tryz.ntmps209
   go_wp2
   go_ret
   exact hr.out
  | some j => have := (hl i j hi hp).2.2; omega
 | succ m ih =>
  intro w par i hi hm hv hl
  have hb := hv i hi
  cases hp : par i with
  | none =>
   rw [hp] at hb
   have hr : KeptRet S P num nm par dep w i (.returned (encP (some (P i)))) w := ⟨i, par, rfl, hi, hp, rfl, Nat.le_refl _, fun _ => Iff.rfl, hl, hv, OnP.refl _ _ _⟩
   obtain ⟨b, hbb⟩ := exq (P i)
   rw [← hbb] at hb hr ⊢
   simp only [Option.map_none, encP] at hb hr ⊢
   have c0 := cell_of_heap hb 0
   have c1 := cell_of_heap hb 1
   simp at c0 c1
   replace hr := hidI hr
   replace hb := hidI hb
   replace hbb := hidI hbb
   replace hp := hidI hp
   clear hv hl hinj ih
   go_enter Tryz.func209, Tryz.ntmps209
   go_wp2
   go_ret
   exact hr.out
  | some j =>
   obtain ⟨hj, hnm, hd⟩ := hl i j hi hp
   rw [hp] at hb
   have hcall := ih w par j hj (by omega) hv hl
   obtain ⟨b, hbb⟩ := exq (P i)
   obtain ⟨b2, hbb2⟩ := exq (P j)
   rw [← hbb] at hb
   simp only [Option.map_some, encP] at hb
   rw [← hbb2] at hb
   have c0 := cell_of_heap hb 0
   have c1 := cell_of_heap hb 1
   simp at c0 c1
   have hargs : encP (some (P i)) = .pointer (some ⟨b, 0, none⟩) := by rw [hbb]; rfl
   have hargs2 : encP (some (P j)) = .pointer (some ⟨b2, 0, none⟩) := by rw [hbb2]; rfl
   rw [hargs]
   rw [hargs2] at hcall
   replace hargs := hidI hargs
   replace hargs2 := hidI hargs2
   replace hb := hidI hb
   replace hbb := hidI hbb
   replace hbb2 := hidI hbb2
   replace hp := hidI hp
   replace hnm := hidI hnm
   replace hv := hidI hv
   replace hl := hidI hl
   replace hinj := hidI hinj
   clear ih
   go_enter Tryz.func209, Tryz.ntmps209
   go_wp2_with fail
   refine hcall.mono ?_
   rintro e w2 ⟨q, par2, rfl, hq, hpq, hnq, hdq, hiff, hl2, hv2, hon⟩
   clear hcall
   have hpi : par2 i ≠ none := fun e => by have := (hiff i).1 e; rw [hp.out] at this; cases this
   obtain ⟨w3, hw3⟩ := exq (w2.setCell ⟨b, 1, none⟩ (encP (some (P q))))
   have hv3 : VSt w3 S P num (fun x => if x = i then some q else par2 x) := by rw [hw3, hbb.out]; exact hv2.link hinj.out hi
   have hr : KeptRet S P num nm par dep w i (.returned (encP (some (P q)))) w3 := by
    refine ⟨q, fun x => if x = i then some q else par2 x, rfl, hq, hpq, by rw [hnq, hnm.out], by omega, fun x => ?_, ?_, hv3, ?_⟩
    · by_cases hx : x = i
      · subst hx
        simp [hp.out]
      · simp only [if_neg hx]; exact hiff x
    · intro x y hx hxy
      by_cases hxi : x = i
      · subst hxi
        simp only [if_true, Option.some.injEq] at hxy
        subst hxy
        exact ⟨hq, by rw [hnq, hnm.out], by omega⟩
      · simp only [if_neg hxi] at hxy
        exact hl2 x y hx hxy
    · refine hon.trans ?_
      rw [hw3, hbb.out]
      exact OnP.set hi _ _
   have hb2 := hv2 i hi
   rw [← hbb.out] at hb2
   have c1' := cell_of_heap hb2 1
   have f1 := frozen_of_row w2 b 1 _ _ hb2
   have d1 : w3.cell? ⟨b, 1, none⟩ = some (encP (some (P q))) := by
    rw [hw3]
    have h3 := heap_setCell_same w2 b 1 _ _ (encP (some (P q))) hb2
    rw [cell_of_heap h3 1]
    simp
   obtain ⟨u, hu⟩ := exq (encP ((par2 i).map P))
   rw [← hu] at c1'
   simp at c1'
   simp only [encP] at hr d1 hw3 ⊢
   replace hr := hidI hr
   replace hb2 := hidI hb2
   replace hv2 := hidI hv2
   replace hv3 := hidI hv3
   replace hl2 := hidI hl2
   replace hiff := hidI hiff
   replace hpq := hidI hpq
   replace hnq := hidI hnq
   replace hpi := hidI hpi
   replace hu := hidI hu
   replace hon := hidI hon
   go_upto_region 4 with fail
   rw [← hw3]
   replace hw3 := hidI hw3
   go_wp2
   go_ret
   exact hr.out
structure MgD where
 Mb : Nat
 gv : Nat
 cv : Nat
 gl : Nat
 cl : Nat
 S : Nat
 P : Nat → Nat
structure MgOk (D : MgD) (base top : Nat) : Prop where
 inj : ∀ i j, i < D.S → j < D.S → D.P i = D.P j → i = j
 mb : base ≤ D.Mb ∧ D.Mb < top
 gl : base ≤ D.gl ∧ D.gl < top ∧ D.gl ≠ D.Mb ∧ D.gl ≠ D.gv
 gv : base ≤ D.gv ∧ D.gv < top ∧ D.gv ≠ D.Mb
 p : ∀ i, i < D.S → base ≤ D.P i ∧ D.P i < top ∧ D.P i ≠ D.Mb ∧ D.P i ≠ D.gl ∧ D.P i ≠ D.gv
 s : 1 ≤ D.S ∧ D.S ≤ 40 ∧ D.S ≤ D.cv ∧ D.S ≤ D.cl ∧ D.cl ≤ maxLen
theorem MgOk.mono {D : MgD} {base top top' : Nat} (h : MgOk D base top) (ht : top ≤ top') : MgOk D base top' :=
 ⟨h.inj, ⟨h.mb.1, by have := h.mb.2; omega⟩, ⟨h.gl.1, by have := h.gl.2.1; omega, h.gl.2.2⟩, ⟨h.gv.1, by have := h.gv.2.1; omega, h.gv.2.2⟩, fun i hi => ⟨(h.p i hi).1, by have := (h.p i hi).2.1; omega, (h.p i hi).2.2⟩, h.s⟩
def MgBox (D : MgD) (r s : Int) (ev : Value) (K : Nat) (lk : Int) : Obj :=
 .cells #[.int .i64 r, .int .i64 s, ev, .int .i32 lk, .int .u32 0, .slice (some ⟨D.gv, 0, none⟩) D.S D.cv, .slice (some ⟨D.gl, 0, none⟩) K D.cl] 211 (0, 0)
structure MgLs (w : World) (D : MgD) (nm : Nat → Int) (K : Nat) (cur : Array Value) (ls : List Nat) (num : Nat → Int) (par : Nat → Option Nat) (dep : Nat → Nat) : Prop where
 row : w.heap[D.gl]? = some (.cells cur 212 (0, 0))
 len : ls.length = K
 kS : K ≤ D.S
 at_ : ∀ q, q < K → cur[q]? = some (encP (some (D.P (ls.getD q 0))))
 vst : VSt w D.S D.P num par
 lst : LSt D.S nm par dep
 root : ∀ i, i < D.S → par i = none → num i = nm i ∧ dep i = 0 ∧ ls.getD (nm i).toNat 0 = i
 nms : ∀ i, i < D.S → 0 ≤ nm i ∧ nm i < K
 left : ∀ q, q < K → ls.getD q 0 < D.S ∧ par (ls.getD q 0) = none ∧ nm (ls.getD q 0) = q
structure MgSt (w : World) (D : MgD) (r s : Int) (ev : Value) (nm : Nat → Int) (K : Nat) : Prop where
 box : w.heap[D.Mb]? = some (MgBox D r s ev K 0)
 vs : ∀ i, i < D.S → w.cell? ⟨D.gv, i, none⟩ = some (encP (some (D.P i)))
 st : ∃ cur ls num par dep, MgLs w D nm K cur ls num par dep
theorem MgSt.below {w w' : World} {D : MgD} {r s : Int} {ev : Value} {nm : Nat → Int} {K base B : Nat} (h : MgSt w D r s ev nm K) (ho : MgOk D base B) (hb : Below B w w') : MgSt w' D r s ev nm K := by
 obtain ⟨h1, h2, cur, ls, num, par, dep, h3⟩ := h
 refine ⟨(hb.block _ ho.mb.2).trans h1, fun i hi => below_cell (h2 i hi) hb ho.gv.2.1, cur, ls, num, par, dep, ?_⟩
 exact ⟨(hb.block _ ho.gl.2.1).trans h3.row, h3.len, h3.kS, h3.at_, h3.vst.keep (fun i hi => hb.block _ (ho.p i hi).2.1), h3.lst, h3.root, h3.nms, h3.left⟩
structure MgOff (D : MgD) (w w' : World) : Prop where
 os : w'.os = w.os
 tape : w'.tape = w.tape
 output : w'.output = w.output
 size : w.heap.size ≤ w'.heap.size
 block : ∀ b, b < w.heap.size → b ≠ D.Mb → b ≠ D.gl → (∀ i, i < D.S → b ≠ D.P i) → w'.heap[b]? = w.heap[b]?
theorem MgOff.refl (D : MgD) (w : World) : MgOff D w w := ⟨rfl, rfl, rfl, Nat.le_refl _, fun _ _ _ _ _ => rfl⟩
theorem MgOff.trans {D : MgD} {a b c : World} (h : MgOff D a b) (k : MgOff D b c) : MgOff D a c :=
 ⟨k.os.trans h.os, k.tape.trans h.tape, k.output.trans h.output, Nat.le_trans h.size k.size, fun i h1 h2 h3 h4 => (k.block i (Nat.lt_of_lt_of_le h1 h.size) h2 h3 h4).trans (h.block i h1 h2 h3 h4)⟩
theorem MgOff.of_below {D : MgD} {w w' : World} (h : Below w.heap.size w w') : MgOff D w w' := ⟨h.os, h.tape, h.output, h.size, fun b hb _ _ _ => h.block b hb⟩
theorem MgOff.of_onP {D : MgD} {w w' : World} (h : OnP D.S D.P w w') : MgOff D w w' := ⟨h.os, h.tape, h.output, Nat.le_of_eq h.size.symm, fun b _ _ _ h4 => h.block b h4⟩
theorem MgOff.setMb {D : MgD} {w : World} (c : Nat) (v : Value) : MgOff D w (w.setCell ⟨D.Mb, c, none⟩ v) := ⟨rfl, rfl, rfl, by simp [World.setCell], fun b _ h2 _ _ => Below.heap_setCell _ _ _ _ h2⟩
theorem MgOff.setP {D : MgD} {w : World} {i : Nat} (hi : i < D.S) (c : Nat) (v : Value) : MgOff D w (w.setCell ⟨D.P i, c, none⟩ v) := MgOff.of_onP (OnP.set hi c v)
theorem MgOff.below {D : MgD} {w w' : World} {base top : Nat} (h : MgOff D w w') (ho : MgOk D base top) (hB : base ≤ w.heap.size) : Below base w w' :=
 ⟨h.os, h.tape, h.output, h.size, fun k hk => h.block k (by omega) (by have := ho.mb.1; omega) (by have := ho.gl.1; omega) (fun i hi => by have := (ho.p i hi).1; omega)⟩
theorem MgOff.cell {D : MgD} {w w' : World} {b j : Nat} {v : Value} (h : MgOff D w w') (hb : b < w.heap.size) (h1 : b ≠ D.Mb) (h2 : b ≠ D.gl) (h3 : ∀ i, i < D.S → b ≠ D.P i) (hc : w.cell? ⟨b, j, none⟩ = some v) : w'.cell? ⟨b, j, none⟩ = some v :=
 (World.cell?_of_block (w := w) (a := ⟨b, j, none⟩) (h.block b hb h1 h2 h3)).trans hc
theorem infoV : (Tryz.prog.info? 212).map (fun i => (i.zero, i.size, i.bytes)) = some (some (.pointer none), 1, 8) := by kernel_rfl
abbrev OwnsV (w : World) (base : Nat) (v : Value) (xs : List Value) : Prop := w.ownsRow base 212 1 v xs.length xs
theorem OwnsV.other {w w' : World} {base : Nat} {v : Value} {xs : List Value} (h : OwnsV w base v xs) (hb : ∀ k, v.ownBlock = some k → w'.heap[k]? = w.heap[k]?) : OwnsV w' base v xs := by
 obtain ⟨h0, h1 | ⟨g, cap, cur, hv, hg, hh, h2⟩⟩ := h
 · exact ⟨h0, .inl h1⟩
 · exact ⟨h0, .inr ⟨g, cap, cur, hv, hg, by rw [hb g (by rw [hv]; rfl)]; exact hh, h2⟩⟩
theorem wpList_pushV_at {w0 : World} {ops : Array Oper} {rest : List Oper} {o : Oper} {a : Act} {Q : Exit → Act → World → Prop} (hgd : o.guard = none) (s x : Operand)
 (ho : o.op = .call { callee := .builtin .append, args := #[s, x], argTypes := #[209, 209] }) (base : Nat) (v : Value) (xs : List Value) (b : Nat)
 (hs : a.eval s = v) (hx : a.eval x = .slice (some ⟨w0.heap.size, 0, none⟩) 1 1) (hown : OwnsV w0 base v xs) (hl : xs.length ≤ 1000000) (hbase : base ≤ w0.heap.size)
 (h : ∀ v' w', OwnsV w' base v' (xs ++ [encP (some b)]) → (w0.alloc (.cells #[.pointer (some ⟨b, 0, none⟩)] 212)).grownBy w' v.ownBlock → (v'.ownBlock = v.ownBlock ∨ v'.ownBlock = some (w0.heap.size + 1)) → wpList Tryz.prog ops Q rest (a.put o.dst v') w') :
 wpList Tryz.prog ops Q (o :: rest) a (w0.alloc (.cells #[.pointer (some ⟨b, 0, none⟩)] 212)) := by
 obtain ⟨i0, hi, hz0, hz1, hz2⟩ := info_parts infoV
 refine wpList_append_own_at _ hgd s x 209 ho base 212 i0 _ 1 8 Tryz.underlying209 hi hz0 hz1 hz2 rfl (by decide) v xs.length xs hs (World.ownsRow.alloc hown _) ⟨w0.heap.size, 0, none⟩ 1 1 [encP (some b)] hx rfl ?_ ?_ ?_ ?_ ?_ ?_
 · intro j u hj
   have hk := heap_alloc_new w0 (.cells #[.pointer (some ⟨b, 0, none⟩)] 212)
   rw [addr_plus, Nat.zero_add]
   match j, hj with
   | 0, hj => simp at hj; subst hj; simp [encP]
 · intro u hu
   simp at hu
   subst hu
   rfl
 · unfold maxLen; omega
 · omega
 · simp; omega
 · intro v' w' ho' hg _ hw
   exact h v' w' (by unfold OwnsV; rw [List.length_append]; exact ho') hg (by simpa using hw)
structure MkSt (w : World) (Mb : Nat) (r s : Int) (ev vs : Value) (Pl : List Nat) : Prop where
 box : w.heap[Mb]? = some (.cells #[.int .i64 r, .int .i64 s, ev, .int .i32 0, .int .u32 0, vs, .slice none 0 0] 211 (0, 0))
 own : OwnsV w (Mb + 1) vs (Pl.map fun b => encP (some b))
 vtx : ∀ i, i < Pl.length → w.heap[Pl.getD i 0]? = some (.cells #[.int .i64 (i : Int), .pointer none] 214 (0, 0))
 inj : ∀ i j, i < Pl.length → j < Pl.length → Pl.getD i 0 = Pl.getD j 0 → i = j
 p : ∀ i, i < Pl.length → Mb < Pl.getD i 0 ∧ Pl.getD i 0 < w.heap.size ∧ vs.ownBlock ≠ some (Pl.getD i 0)
theorem MkSt.next {w w' : World} {Mb : Nat} {r s : Int} {ev vs vs' : Value} {Pl : List Nat} (h : MkSt w Mb r s ev vs Pl) (hMb : Mb < w.heap.size)
 (hown : OwnsV w' (Mb + 1) vs' ((Pl.map fun b => encP (some b)) ++ [encP (some w.heap.size)]))
 (hg : ((w.alloc (.cells #[.int .i64 (Pl.length : Int), .pointer none] 214)).alloc (.cells #[.pointer (some ⟨w.heap.size, 0, none⟩)] 212)).grownBy w' vs.ownBlock)
 (hloc : vs'.ownBlock = vs.ownBlock ∨ vs'.ownBlock = some (w.heap.size + 1 + 1)) :
 MkSt (w'.setCell ⟨Mb, 5, none⟩ vs') Mb r s ev vs' (Pl ++ [w.heap.size]) ∧ Below Mb w (w'.setCell ⟨Mb, 5, none⟩ vs') ∧ w'.heap[Mb]? = some (.cells #[.int .i64 r, .int .i64 s, ev, .int .i32 0, .int .u32 0, vs, .slice none 0 0] 211 (0, 0)) := by
 have hlt := World.ownsRow.lt h.own
 have hne : ∀ b, b < w.heap.size → vs.ownBlock ≠ some b → w'.heap[b]? = w.heap[b]? := fun b hb hn => by
  rw [hg.block b (by simp; omega) (fun e => hn e.symm), heap_alloc_old _ _ (by simp; omega), heap_alloc_old _ _ hb]
 have hMn : vs.ownBlock ≠ some Mb := fun e => by have := (hlt _ e).1; omega
 have hwn : vs.ownBlock ≠ some w.heap.size := fun e => by have := (hlt _ e).2; omega
 have hsz : w.heap.size + 1 + 1 ≤ w'.heap.size := by have := hg.size; simpa using this
 have hnew : w'.heap[w.heap.size]? = some (.cells #[.int .i64 (Pl.length : Int), .pointer none] 214 (0, 0)) := by
  rw [hg.block w.heap.size (by simp; omega) (fun e => hwn e.symm), heap_alloc_old _ _ (by simp)]
  exact heap_alloc_new _ _
 have hget1 : ∀ i, i < Pl.length → (Pl ++ [w.heap.size]).getD i 0 = Pl.getD i 0 := fun i hi => by
  simp [List.getD_eq_getElem?_getD, List.getElem?_append_left hi]
 have hget2 : (Pl ++ [w.heap.size]).getD Pl.length 0 = w.heap.size := by simp [List.getD_eq_getElem?_getD]
 refine ⟨⟨?_, ?_, fun i hi => ?_, fun i j hi hj hij => ?_, fun i hi => ?_⟩, ?_, (hne Mb hMb hMn).trans h.box⟩
 · have := heap_setCell_same w' Mb 5 _ _ vs' ((hne Mb hMb hMn).trans h.box)
   simpa using this
 · rw [List.map_append, List.map_singleton]
   refine OwnsV.other hown fun k e => Below.heap_setCell _ _ _ _ (show k ≠ Mb from fun ek => ?_)
   subst ek
   rcases hloc with h1 | h1
   · exact hMn (h1 ▸ e)
   · have e2 := Option.some.inj (h1.symm.trans e); omega
 · rw [List.length_append, List.length_singleton] at hi
   by_cases hil : i < Pl.length
   · rw [hget1 i hil, Below.heap_setCell _ _ _ _ (show Pl.getD i 0 ≠ Mb by have := (h.p i hil).1; omega), hne _ (h.p i hil).2.1 (h.p i hil).2.2]
     exact h.vtx i hil
   · obtain rfl : i = Pl.length := by omega
     rw [hget2, Below.heap_setCell _ _ _ _ (show w.heap.size ≠ Mb by omega)]
     exact hnew
 · rw [List.length_append, List.length_singleton] at hi hj
   by_cases hil : i < Pl.length
   · by_cases hjl : j < Pl.length
     · rw [hget1 i hil, hget1 j hjl] at hij
       exact h.inj i j hil hjl hij
     · obtain rfl : j = Pl.length := by omega
       rw [hget1 i hil, hget2] at hij
       have := (h.p i hil).2.1; omega
   · obtain rfl : i = Pl.length := by omega
     by_cases hjl : j < Pl.length
     · rw [hget1 j hjl, hget2] at hij
       have := (h.p j hjl).2.1; omega
     · omega
 · rw [List.length_append, List.length_singleton] at hi
   have hs2 : (w'.setCell ⟨Mb, 5, none⟩ vs').heap.size = w'.heap.size := by simp [World.setCell]
   rw [hs2]
   by_cases hil : i < Pl.length
   · rw [hget1 i hil]
     obtain ⟨p1, p2, p3⟩ := h.p i hil
     refine ⟨p1, by omega, fun e => ?_⟩
     rcases hloc with h1 | h1
     · exact p3 (h1 ▸ e)
     · have e2 := Option.some.inj (h1.symm.trans e); omega
   · obtain rfl : i = Pl.length := by omega
     rw [hget2]
     refine ⟨hMb, by omega, fun e => ?_⟩
     rcases hloc with h1 | h1
     · exact hwn (h1 ▸ e)
     · have e2 := Option.some.inj (h1.symm.trans e); omega
 · have hb1 : Below Mb w w' := ((((Below.refl Mb w).alloc (by omega) _).alloc (by simp; omega) _).grown hg (by simp; omega) (fun k hk => by have := (hlt k hk).1; omega))
   exact hb1.setCell (p := ⟨Mb, 5, none⟩) (Nat.le_refl _) _
open Go.RowKit Go.Shelf
def MakeRet (w : World) (r s : Int) (ev : Value) (e : Ending) (w' : World) : Prop :=
 ∃ D : MgD, e = .returned (.pointer (some ⟨D.Mb, 0, none⟩)) ∧ MgOk D w.heap.size w'.heap.size ∧ (D.S : Int) = s ∧ MgSt w' D r s ev (fun i => (i : Int)) D.S ∧ Below w.heap.size w w'
theorem encP_one (b : Option Nat) : (encP b).oneCell' = true := by cases b <;> rfl
set_option maxRecDepth 100000 in
set_option maxHeartbeats 3200000 in
theorem cloneV (w : World) (base g n cap : Nat) (xs : List Value) (hown : OwnsV w base (.slice (some ⟨g, 0, none⟩) n cap) xs) (hn : xs.length = n) (hl : n ≤ 1000) (h1 : ∀ u ∈ xs, u.oneCell' = true) :
 Calls Tryz.prog 206 #[.slice (some ⟨g, 0, none⟩) n cap] w fun e w' => ∃ v', e = .returned v' ∧ w'.ownsRow w.heap.size 212 1 v' n xs ∧ v' ≠ .slice none 0 0 ∧ Below w.heap.size w w' := by
 obtain ⟨i0, hi, hz0, hz1, hz2⟩ := info_parts infoV
 have hc := World.ownsRow.cells hown (g := g) rfl
 have h := AnyE.slices_Clone Tryz.clnV i0 (.pointer none) 1 8 hi hz0 hz1 hz2 rfl (by decide) Tryz.sizeOf212 g 0 n cap xs w (by omega) (by unfold maxLen; omega) (by omega) (fun j u hj => by
  have := hc j u hj
  rw [addr_plus] at this
  exact this) h1
 exact h
theorem range_getD {S q : Nat} (h : q < S) : (List.range S).getD q 0 = q := by simp [List.getD_eq_getElem?_getD, h]
theorem make_fin {w wr w5 : World} {M gv cv S : Nat} {r : Int} {ev v' : Value} {Pl : List Nat} (hP : MkSt wr M r (S : Int) ev (.slice (some ⟨gv, 0, none⟩) S cv) Pl) (hPk : Pl.length = S) (hS : 1 ≤ S ∧ S ≤ 40) (hb5 : Below wr.heap.size wr w5)
 (hown5 : w5.ownsRow wr.heap.size 212 1 v' S (Pl.map fun b => encP (some b))) (hne : v' ≠ .slice none 0 0) (hwM : w.heap.size ≤ M) (hMr : M < wr.heap.size) (hbw : Below w.heap.size w wr) :
 MakeRet w r (S : Int) ev (.returned (.pointer (some ⟨M, 0, none⟩))) (w5.setCell ⟨M, 6, none⟩ v') := by
 obtain ⟨_, ⟨h1, _⟩ | ⟨gl, cl, cur, rfl, hgl, hh, hc1, hc2, hc3, htk⟩⟩ := hown5
 · exact absurd h1 hne
 have hgll : gl < w5.heap.size := by
  rcases Nat.lt_or_ge gl w5.heap.size with h | h
  · exact h
  · rw [Array.getElem?_eq_none h] at hh; cases hh
 have hlt := World.ownsRow.lt hP.own gv rfl
 have hcells := World.ownsRow.cells hP.own (g := gv) rfl
 obtain ⟨_, ⟨h2, _⟩ | ⟨gv', cv', curv, h2, _, _, hv1, _⟩⟩ := hP.own
 · cases h2
 injection h2 with _ h2l h2c
 subst h2c
 have hs6 : (w5.setCell ⟨M, 6, none⟩ (.slice (some ⟨gl, 0, none⟩) S cl)).heap.size = w5.heap.size := by simp [World.setCell]
 have hoth : ∀ b, b ≠ M → (w5.setCell ⟨M, 6, none⟩ (.slice (some ⟨gl, 0, none⟩) S cl)).heap[b]? = w5.heap[b]? := fun b hb => Below.heap_setCell _ _ _ _ hb
 have hbox5 := (hb5.block M hMr).trans hP.box
 refine ⟨⟨M, gv, cv, gl, cl, S, fun i => Pl.getD i 0⟩, rfl, ⟨?_, ?_, ?_, ?_, ?_, ?_⟩, rfl, ⟨?_, ?_, cur, List.range S, fun i => (i : Int), fun _ => none, fun _ => 0, ?_⟩, ?_⟩
 · intro i j hi hj hij
   exact hP.inj i j (by rw [hPk]; exact hi) (by rw [hPk]; exact hj) hij
 · rw [hs6]; exact ⟨hwM, by have := hb5.size; show M < _; omega⟩
 · rw [hs6]
   refine ⟨?_, hgll, ?_, ?_⟩
   · show w.heap.size ≤ gl; omega
   · show gl ≠ M; omega
   · show gl ≠ gv; omega
 · rw [hs6]
   refine ⟨?_, ?_, ?_⟩
   · show w.heap.size ≤ gv; omega
   · show gv < _; have := hb5.size; omega
   · show gv ≠ M; omega
 · intro i hi
   rw [hs6]
   obtain ⟨p1, p2, p3⟩ := hP.p i (by rw [hPk]; exact hi)
   have hsz := hb5.size
   refine ⟨?_, ?_, ?_, ?_, ?_⟩
   · show w.heap.size ≤ Pl.getD i 0; omega
   · show Pl.getD i 0 < _; omega
   · show Pl.getD i 0 ≠ M; omega
   · show Pl.getD i 0 ≠ gl; omega
   · intro e; exact p3 (congrArg some e.symm)
 · refine ⟨hS.1, hS.2, ?_, hc1, hc2⟩
   show S ≤ cv
   have : (Pl.map fun b => encP (some b)).length = S := by rw [List.length_map, hPk]
   omega
 · have := heap_setCell_same w5 M 6 _ _ (.slice (some ⟨gl, 0, none⟩) S cl) hbox5
   show (w5.setCell ⟨M, 6, none⟩ _).heap[M]? = _
   rw [this]
   simp [MgBox]
 · intro i hi
   have h1 := hcells i (encP (some (Pl.getD i 0))) (by
    rw [List.getElem?_map, List.getD_eq_getElem?_getD, List.getElem?_eq_getElem (show i < Pl.length by rw [hPk]; exact hi)]; rfl)
   rw [addr_plus, Nat.zero_add] at h1
   have h2 := below_cell h1 hb5 hlt.2
   exact (World.cell?_of_block (w := w5) (a := ⟨gv, i, none⟩) (hoth gv (by omega))).trans h2
 · refine ⟨?_, by simp, Nat.le_refl _, fun q hq => ?_, fun i hi => ?_, fun i j _ hj => (by cases hj), fun i hi _ => ⟨rfl, rfl, ?_⟩, fun i hi => ⟨by omega, by omega⟩, fun q hq => ?_⟩
   · show (w5.setCell ⟨M, 6, none⟩ _).heap[gl]? = _
     rw [hoth gl (by omega)]; exact hh
   · have hq' : q < S := hq
     have : cur.toList[q]? = (Pl.map fun b => encP (some b))[q]? := by
      rw [← htk, List.getElem?_take, if_pos (by omega)]
     rw [Array.getElem?_toList, List.getElem?_map, List.getElem?_eq_getElem (show q < Pl.length by rw [hPk]; exact hq')] at this
     rw [this, range_getD hq']
     show _ = some (encP (some (Pl.getD q 0)))
     rw [List.getD_eq_getElem?_getD, List.getElem?_eq_getElem (show q < Pl.length by rw [hPk]; exact hq')]
     rfl
   · obtain ⟨p1, p2, p3⟩ := hP.p i (by rw [hPk]; exact hi)
     show (w5.setCell ⟨M, 6, none⟩ _).heap[Pl.getD i 0]? = _
     rw [hoth _ (by omega), hb5.block _ p2, hP.vtx i (by rw [hPk]; exact hi)]
     rfl
   · rw [Int.toNat_natCast]; exact range_getD hi
   · have hq' : q < S := hq
     rw [range_getD hq']
     exact ⟨hq, rfl, rfl⟩
 · exact (hbw.trans (hb5.mono hbw.size)).setCell (p := ⟨M, 6, none⟩) hwM _
set_option maxRecDepth 100000 in
set_option maxHeartbeats 6400000 in
theorem merging_any (w : World) (r s : Int) (v : Value) (es : List Ed) (h : ReadE w.heap.size w v es) (hs : 1 ≤ s ∧ s ≤ 40) (hl : es.length ≤ 100000) :
 Calls Tryz.prog 193 #[.agg #[.int .i64 r, .int .i64 s, v]] w (MakeRet w r s v) := by
 obtain ⟨a, cap, rfl, hnc⟩ := h.form
 obtain ⟨n, hn⟩ := exq es.length
 rw [← hn] at hl hnc ⊢
 obtain ⟨S, hS⟩ : ∃ S : Nat, (S : Int) = s := ⟨s.toNat, by omega⟩
 obtain ⟨w0, hw0⟩ := exq (w.alloc (.cells #[.int .i64 r, .int .i64 s, .slice a n cap] 26))
 have hb0 : Below w.heap.size w w0 := by rw [hw0]; exact (Below.refl _ _).alloc (Nat.le_refl _) _
 have hs0 : w0.heap.size = w.heap.size + 1 := by rw [hw0]; simp
 obtain ⟨g0, g1, g2⟩ := box3 hw0
 obtain ⟨w1, hw1⟩ := exq (w0.alloc (.cells #[.int .i64 r, .int .i64 s, .slice a n cap, .int .i32 0, .int .u32 0, .slice none 0 0, .slice none 0 0] 211))
 have hb1 : Below w0.heap.size w0 w1 := by rw [hw1]; exact (Below.refl _ _).alloc (Nat.le_refl _) _
 have hs1 : w1.heap.size = w.heap.size + 1 + 1 := by rw [hw1]; simp; omega
 obtain ⟨M, hM⟩ := exq (w.heap.size + 1)
 have hk1 : w1.heap[M]? = some (.cells #[.int .i64 r, .int .i64 s, .slice a n cap, .int .i32 0, .int .u32 0, .slice none 0 0, .slice none 0 0] 211 (0, 0)) := by
  rw [hw1, hM, ← hs0]; exact heap_alloc_new _ _
 have hst0 : Hid (∃ Pl : List Nat, Pl.length = 0 ∧ ∃ vs, MkSt w1 M r s (.slice a n cap) vs Pl) := hidI ⟨[], rfl, .slice none 0 0, hk1, World.ownsRow_nil _ _ _ _, fun i hi => by simp at hi, fun i j hi => by simp at hi, fun i hi => by simp at hi⟩
 have hkb0 : Hid (Below M w1 w1) := hidI (Below.refl _ _)
 have hb01 : Below w.heap.size w w1 := hb0.trans (hb1.mono (by omega))
 have hlt0 : w.heap.size < w0.heap.size := by omega
 have p0 := below_cell g0 hb1 hlt0
 have p1 := below_cell g1 hb1 hlt0
 have p2 := below_cell g2 hb1 hlt0
 rw [← hS] at p1
 have hsz1 : M < w1.heap.size := by omega
 have hSb : S ≤ 40 := by omega
 replace hn := hidI hn
 replace h := hidI h
 replace hs0 := hidI hs0
 replace hs1 := hidI hs1
 replace hk1 := hidI hk1
 replace hS := hidI hS
 replace hb0 := hidI hb0
 replace hb01 := hidI hb01
 replace hb1 := hidI hb1
 go_enter Tryz.func193, Tryz.ntmps193
 go_upto_region 1 with fail
 rw [← hw0]
 replace hw0 := hidI hw0
 go_upto_region 2 with fail
 rw [← hw1]
 replace hw1 := hidI hw1
 clear g0 g1 g2
 rw [show w0.heap.size = M by have := hs0.out; omega]
 replace hM := hidI hM
 go_wp2
 go_loopg [10] S (fun g i wr => ∃ k : Nat, k + g = S ∧ i = .int .i64 k ∧ Hid (∃ Pl : List Nat, Pl.length = k ∧ ∃ vs, MkSt wr M r s (.slice a n cap) vs Pl) ∧ Hid (Below M w1 wr))
 case atStart => exact ⟨0, by omega, rfl, hst0, hkb0⟩
 case round =>
  clear hst0 hkb0
  obtain ⟨k, hk, rfl, hst, hkb⟩ := hrel
  obtain ⟨Pl, hPk, vs, hP⟩ := hst.out
  obtain ⟨va, vm, vc, rfl⟩ : ∃ a m c, vs = .slice a m c := by
   rcases hP.own.2 with ⟨h1, _⟩ | ⟨g, cap, cur, h1, _⟩
   · exact ⟨_, _, _, h1⟩
   · exact ⟨_, _, _, h1⟩
  have hMr : M < wr.heap.size := by have := hkb.out.size; omega
  by_cases hlt : k < S
  · have hki : (k : Int) < (S : Int) := by omega
    obtain ⟨w3, hw3⟩ := exq (wr.alloc (.cells #[.int .i64 (k : Int), .pointer none] 214))
    have hs3 : w3.heap.size = wr.heap.size + 1 := by rw [hw3]; simp
    have hb3 : Below wr.heap.size wr w3 := by rw [hw3]; exact (Below.refl _ _).alloc (Nat.le_refl _) _
    have hown3 : OwnsV w3 (M + 1) (.slice va vm vc) (Pl.map fun b => encP (some b)) := by rw [hw3]; exact World.ownsRow.alloc hP.own _
    have hlen3 : (Pl.map fun b => encP (some b)).length ≤ 1000000 := by rw [List.length_map]; have := hS.out; omega
    have hbox := hP.box
    have c5 := cell_of_heap hbox 5
    simp at c5
    obtain ⟨X, hX⟩ := exq wr.heap.size
    have hown3' := hown3
    replace hown3 := hidI hown3
    replace hlen3 := hidI hlen3
    replace hP := hidI hP
    replace hbox := hidI hbox
    replace hb3 := hidI hb3
    replace hk := hidI hk
    replace hPk := hidI hPk
    clear hst hown3'
    go_wp2_with (at_builtin; go_must (rw [← hw3]; refine wpList_pushV_at rfl _ _ rfl (M + 1) (.slice va vm vc) (Pl.map fun b => encP (some b)) wr.heap.size rfl (by rw [hs3]; rfl) hown3.out hlen3.out (by omega) ?_))
    intro v4 w4 hown4 hg4 hloc4
    have hnx := hP.out.next hMr hown4 (by rw [hPk.out]; exact hg4) hloc4
    obtain ⟨hst4, hb4, hbox4⟩ := hnx
    obtain ⟨va4, vm4, vc4, rfl⟩ : ∃ a m c, v4 = .slice a m c := by
     rcases hown4.2 with ⟨h1, _⟩ | ⟨g, cap, cur, h1, _⟩
     · exact ⟨_, _, _, h1⟩
     · exact ⟨_, _, _, h1⟩
    have d5 := cell_of_heap hbox4 5
    have f5 := frozen_of_row w4 M 5 _ _ hbox4
    simp at d5
    have hst9 : Hid (∃ Pl : List Nat, Pl.length = k + 1 ∧ ∃ vs, MkSt (w4.setCell ⟨M, 5, none⟩ (.slice va4 vm4 vc4)) M r s (.slice a n cap) vs Pl) := hidI ⟨_, by rw [List.length_append, hPk.out]; rfl, _, hst4⟩
    have hkb9 := hidI (hkb.out.trans hb4)
    replace hst4 := hidI hst4
    replace hb4 := hidI hb4
    replace hbox4 := hidI hbox4
    replace hown4 := hidI hown4
    replace hg4 := hidI hg4
    replace hloc4 := hidI hloc4
    replace hw3 := hidI hw3
    replace hs3 := hidI hs3
    go_wp2
    go_roundg (S - (k + 1))
    case rel => exact ⟨k + 1, by have := hk.out; omega, by go_num, hst9, hkb9⟩
    case measure => have := hk.out; omega
  · obtain rfl : k = S := by omega
    have hki : ¬ (k : Int) < (k : Int) := by omega
    have hk1' : 1 ≤ k ∧ k ≤ 40 := by have := hS.out; omega
    obtain ⟨gv, cv, hvs⟩ : ∃ g c, Value.slice va vm vc = .slice (some ⟨g, 0, none⟩) k c := by
     rcases hP.own.2 with ⟨_, h1⟩ | ⟨g, cap, cur, h1, _⟩
     · rw [List.length_map] at h1; omega
     · rw [List.length_map, hPk] at h1; exact ⟨g, cap, h1⟩
    rw [hvs] at hP
    have hcl := cloneV wr (M + 1) gv k cv _ hP.own (by rw [List.length_map, hPk]) (by omega) (fun u hu => by
     obtain ⟨b, _, rfl⟩ := List.mem_map.1 hu
     exact encP_one _)
    have hbox := hP.box
    have c5 := cell_of_heap hbox 5
    simp at c5
    have hbwr : Below w.heap.size w wr := hb01.out.trans (hkb.out.mono (by have := hM.out; omega))
    replace hvs := hidI hvs
    replace hP := hidI hP
    replace hk := hidI hk
    replace hPk := hidI hPk
    replace hbwr := hidI hbwr
    clear hst
    go_wp2_with fail
    refine hcl.mono ?_
    rintro e w5 ⟨v5, rfl, hown5, hne5, hb5⟩
    clear hcl
    obtain ⟨gl, cl, rfl⟩ : ∃ g c, v5 = .slice (some ⟨g, 0, none⟩) k c := by
     rcases hown5.2 with ⟨h1, _⟩ | ⟨g, cap, cur, h1, _⟩
     · exact absurd h1 hne5
     · exact ⟨g, cap, h1⟩
    have hP2 := hP.out
    rw [← hS.out] at hP2
    have hfin := make_fin hP2 hPk.out hk1' hb5 hown5 hne5 (by have := hM.out; omega) hMr hbwr.out
    rw [hS.out] at hfin
    have hbox5 := (hb5.block M hMr).trans hbox
    have d6 := cell_of_heap hbox5 6
    have f6 := frozen_of_row w5 M 6 _ _ hbox5
    simp at d6
    replace hfin := hidI hfin
    replace hbox := hidI hbox
    replace hbox5 := hidI hbox5
    replace hown5 := hidI hown5
    replace hne5 := hidI hne5
    replace hP2 := hidI hP2
    replace hb5 := hidI hb5
    go_wp2
    go_ret
    exact hfin.out
open Go.RowKit Go.Shelf Go.Sort
theorem heap_putRow {w : World} {g : Nat} {cur : Array Value} {T : TypeId} {fr : Nat × Nat} (enc : Option Nat → Value) (d : Array (Option Nat)) (h : w.heap[g]? = some (.cells cur T fr)) :
 (putRow enc w g 0 d).heap[g]? = some (.cells (putCells enc 0 d cur) T fr) := by
 unfold putRow mapBlock
 simp only [Array.getElem?_modify, if_true, h, Option.map_some, onCells]
theorem heap_putRow_other {w : World} {g b : Nat} (enc : Option Nat → Value) (d : Array (Option Nat)) (h : b ≠ g) : (putRow enc w g 0 d).heap[b]? = w.heap[b]? := by
 unfold putRow mapBlock
 simp only [Array.getElem?_modify, if_neg (Ne.symm h)]
theorem putCells_at {enc : Option Nat → Value} {d : Array (Option Nat)} {cur : Array Value} {q : Nat} (hq : q < d.size) (hc : (cur[q]?).isSome) : (putCells enc 0 d cur)[q]? = some (enc d[q]!) := by
 unfold putCells
 rw [Array.getElem?_mapIdx]
 obtain ⟨x, hx⟩ := Option.isSome_iff_exists.1 hc
 rw [hx]
 simp only [Option.map_some, Nat.zero_le, Nat.zero_add, true_and, if_pos hq, Nat.sub_zero]
def DelRet (g cap : Nat) (T : TypeId) (xs : List (Option Nat)) (d : Nat) (w : World) (e : Ending) (w' : World) : Prop :=
 e = .returned (.slice (some ⟨g, 0, none⟩) (xs.length - 1) cap) ∧ (∃ cur', w'.heap[g]? = some (.cells cur' T (0, 0)) ∧ ∀ q, q + 1 < xs.length → cur'[q]? = some (encP (if q < d then xs.getD q none else xs.getD (q + 1) none))) ∧
  w'.os = w.os ∧ w'.tape = w.tape ∧ w'.output = w.output ∧ w'.heap.size = w.heap.size ∧ ∀ b, b ≠ g → w'.heap[b]? = w.heap[b]?
theorem zeroV (w : World) : (zeroValue 212).run Tryz.prog w = .ok (.pointer none) w := by kernel_rfl
set_option maxRecDepth 100000 in
theorem deleteV (w : World) (g cap : Nat) (T : TypeId) (cur : Array Value) (xs : List (Option Nat)) (d : Nat) (hrow : w.heap[g]? = some (.cells cur T (0, 0))) (hat : ∀ q, q < xs.length → cur[q]? = some (encP (xs.getD q none))) (hcap : xs.length ≤ cap) (hm : cap ≤ maxLen) (hd : d < xs.length) :
 Calls Tryz.prog 211 #[.slice (some ⟨g, 0, none⟩) xs.length cap, .int .i64 d, .int .i64 ((d : Int) + 1)] w (DelRet g cap T xs d w) := by
 obtain ⟨i0, hi, hz0, hz1, hz2⟩ := info_parts infoV
 have hget : ∀ q (hq : q < xs.length), xs.toArray[q]! = xs.getD q none := fun q hq => by
  rw [getElem!_pos xs.toArray q (by simpa using hq), List.getD_eq_getElem?_getD, List.getElem?_eq_getElem hq]
  simp
 have hH : Holds encP w g 0 xs.toArray := by
  intro j hj
  have hj' : j < xs.length := by simpa using hj
  rw [Nat.zero_add, hget j hj']
  exact ⟨(cell_of_heap hrow j).trans (hat j hj'), frozen_of_row w g j _ _ hrow⟩
 have h := AnyE.slices_Delete Tryz.delV encP (fun x => encP_one x) none zeroV i0 hi hz1 g 0 cap d (d + 1) xs.toArray w hH (by simpa using hcap) (by unfold maxLen at hm; omega) (by omega) (by simp; omega)
 change Calls Tryz.prog 211 _ _ _ at h
 rw [show xs.toArray.size = xs.length by simp] at h
 rw [show ((d + 1 : Nat) : Int) = (d : Int) + 1 by push_cast; rfl] at h
 refine h.mono ?_
 rintro e w' ⟨rfl, q, rfl⟩
 obtain ⟨arr, harr⟩ := exq ((xs.toArray.toList.take d ++ xs.toArray.toList.drop (d + 1) ++ List.replicate (d + 1 - d) none).toArray)
 rw [← harr]
 have hsz : arr.size = xs.length := by rw [harr]; simp; omega
 have hrow2 : (Go.Sort.ahead w q).heap[g]? = some (.cells cur T (0, 0)) := hrow
 refine ⟨by rw [show d + 1 - d = 1 by omega], ⟨_, heap_putRow encP arr hrow2, fun p hp => ?_⟩, rfl, rfl, rfl, by rw [size_putRow]; rfl, fun b hb => heap_putRow_other encP arr hb⟩
 rw [putCells_at (by rw [hsz]; omega) (by rw [hat p (by omega)]; rfl), getElem!_pos arr p (by rw [hsz]; omega)]
 congr 2
 have : arr[p]? = (xs.take d ++ xs.drop (d + 1) ++ List.replicate 1 none)[p]? := by
  rw [harr, show d + 1 - d = 1 by omega]; simp
 rw [Array.getElem?_eq_getElem (by rw [hsz]; omega)] at this
 have hl : (xs.take d ++ xs.drop (d + 1)).length = xs.length - 1 := by simp; omega
 rw [List.getElem?_append_left (by rw [hl]; omega)] at this
 by_cases hpd : p < d
 · rw [if_pos hpd, List.getD_eq_getElem?_getD]
   rw [List.getElem?_append_left (by simp; omega), List.getElem?_take, if_pos hpd] at this
   rw [← this]; rfl
 · rw [if_neg hpd, List.getD_eq_getElem?_getD]
   rw [List.getElem?_append_right (by simp; omega), List.getElem?_drop] at this
   have e : d + 1 + (p - (xs.take d).length) = p + 1 := by simp; omega
   rw [e] at this
   rw [← this]; rfl
end Go.Proofs.YtpjlamnjiilgbaaGreat
