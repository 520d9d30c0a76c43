/- Paths of new edges, the program: copies with the row's spare room in sight, edgeBetween, the closure of AddPath (tools/sf1.py). slices.Compact at edges. Edges in strict order, plain mathematics: put one by one, or sorted and made compact. -/
import Derived.Test.YtacmpbekgipkfaaQF
import Derived.Test.YtacmpbekgipkfaaQB
import Derived.Maps.AppendAt
import Derived.Deep.Cut
import Derived.Lib.SliceRun
import Derived.Deep.LoopGhost
import Derived.Test.YtacmpbekgipkfaaGS10
namespace Go.Proofs.Ytacmpbekgipkfaa
open Go.RowKit
set_option linter.unusedVariables false
set_option linter.unusedSimpArgs false

def LwEdgesO (w : World) (es : List Ed) (e : Ending) (w' : World) : Prop := ∃ v, e = .returned v ∧ OwnsE w' w.heap.size v es ∧ Below w.heap.size w w'
def LwGraphO (w : World) (r s : Int) (es : List Ed) (e : Ending) (w' : World) : Prop :=
  ∃ a cap, e = .returned (.agg #[.int .i64 r, .int .i64 s, .slice a es.length cap]) ∧ OwnsE w' w.heap.size (.slice a es.length cap) es ∧ Below w.heap.size w w'
theorem OwnsS.other {T : TypeId} {sz n base : Nat} {w w' : World} {v : Value} {zs : List Int} (h : OwnsS T sz w base v n zs) (hb : ∀ k, v.ownBlock = some k → w'.heap[k]? = w.heap[k]?) : OwnsS T sz w' base v n zs := by
  obtain ⟨h1, h2 | ⟨g, cap, cur, rfl, hg, hh, hr⟩⟩ := h
  · exact ⟨h1, .inl h2⟩
  · exact ⟨h1, .inr ⟨g, cap, cur, rfl, hg, (hb g rfl).trans hh, hr⟩⟩
set_option maxHeartbeats 800000 in
theorem gpCloneO (w : World) (v : Value) (es : List Ed) (h : ReadE w.heap.size w v es) (hl : es.length ≤ 1000000000) :
    Calls Try.prog 43 #[v] w (LwEdgesO w es) := by
  have hread := h
  obtain ⟨hzl, _, a, cap, rfl, ⟨hnil, _⟩, hr⟩ := h
  obtain ⟨n, hn⟩ : ∃ n, n = es.length := ⟨_, rfl⟩
  rcases a with _ | ad
  · have hz : es = [] := by
      rcases hr with h0 | ⟨b, off, ha, _⟩
      · exact List.eq_nil_of_length_eq_zero h0
      · cases ha
    have hc0 := hnil rfl
    subst hc0
    subst hz
    have hr : LwEdgesO w [] (.returned (.slice none 0 0)) w := ⟨_, rfl, OwnsS.nil _ _, Below.refl _ _⟩
    replace hr := hidI hr
    have heq := fun W : World => Lib.run_eql_slice_nil (P := Try.prog) W 26 44 none 0 0 0 0 Try.underlying26
    clear hread hn hnil
    go_enter Try.func43, Try.ntmps43
    go_wp2
    go_ret
    exact hr.out
  · have hlit : OwnsE (w.alloc (.cells #[] 44)) w.heap.size (.slice (some ⟨w.heap.size, 0, none⟩) 0 0) [] := OwnsE.litE w
    have hb0 := (Below.refl w.heap.size w).alloc (Nat.le_refl _) (.cells #[] 44)
    have hx := hread.below hb0
    have hl3 : ([] : List Ed).length + es.length ≤ 1000000000 := by simp; omega
    have hl4 : es.length ≤ 1000000000000 := by omega
    replace hlit := hidI hlit
    replace hx := hidI hx
    replace hl4 := hidI hl4
    rw [← hn]
    replace hl3 := hidI hl3
    have hx' : Hid (ReadE w.heap.size (w.alloc (.cells #[] 44)) (.slice (some ad) n cap) es) := hidI (by rw [hn]; exact hx.out)
    clear hx
    replace hn := hidI hn
    replace hread := hidI hread
    clear hr hnil hzl
    have heq := fun W : World => Lib.run_eql_slice_nil (P := Try.prog) W 26 44 (some ad) n cap 0 0 Try.underlying26
    go_enter Try.func43, Try.ntmps43
    go_wp2_with (at_builtin; go_must (refine wpList_pushAllE rfl _ _ rfl w.heap.size _ _ [] es w.heap.size rfl rfl (by exact hlit.out) (by exact hx'.out) hl3.out (by simp) ?_))
    intro v1 w1 hown1 hb1'
    have hb1 := hb0.trans hb1'
    have hr : LwEdgesO w es (.returned v1) w1 := ⟨_, rfl, by simpa using hown1, hb1⟩
    replace hr := hidI hr
    clear hown1 hb1' hlit hx' hb0 hb1
    go_wp2
    go_ret
    exact hr.out
set_option maxHeartbeats 1600000 in
theorem gpCopyO (w : World) (r s : Int) (v : Value) (es : List Ed) (h : ReadE w.heap.size w v es) (hl : es.length ≤ 1000000000) :
    Calls Try.prog 116 #[.agg #[.int .i64 r, .int .i64 s, v]] w (LwGraphO w r s es) := by
  obtain ⟨a, cap, rfl, hnc⟩ := h.form
  obtain ⟨n, hn⟩ : ∃ n, n = es.length := ⟨_, rfl⟩
  rw [← hn] at h hnc
  obtain ⟨w1, hw1⟩ : ∃ w1, w1 = (w.alloc (.cells #[.int .i64 r, .int .i64 s, .slice a n cap] 29)).alloc (.cells #[.int .i64 0, .int .i64 0, .slice none 0 0] 29) := ⟨_, rfl⟩
  have hb1 : Below w.heap.size w w1 := by rw [hw1]; exact ((Below.refl _ _).alloc (Nat.le_refl _) _).alloc (by simp) _
  have hs1 : w1.heap.size = w.heap.size + 1 + 1 := by rw [hw1]; simp
  have hg := heap_box w (.cells #[.int .i64 r, .int .i64 s, .slice a n cap] 29) (.cells #[.int .i64 0, .int .i64 0, .slice none 0 0] 29)
  have hk := heap_alloc_new (w.alloc (.cells #[.int .i64 r, .int .i64 s, .slice a n cap] 29)) (.cells #[.int .i64 0, .int .i64 0, .slice none 0 0] 29)
  rw [← hw1] at hg hk
  rw [show (w.alloc (.cells #[.int .i64 r, .int .i64 s, .slice a n cap] 29)).heap.size = w.heap.size + 1 by simp] at hk
  have hrd1 := (h.below hb1).mono hb1.size
  rw [hn] at hrd1
  have hcl := gpCloneO w1 _ es hrd1 hl
  rw [← hn] at hcl ⊢
  replace hn := hidI hn
  replace h := hidI h
  replace hrd1 := hidI hrd1
  replace hs1 := hidI hs1
  replace hw1 := hidI hw1
  have g0 : w1.cell? ⟨w.heap.size, 0, none⟩ = some (.int .i64 r) := by simpa using cell_of_heap hg 0
  have g1 : w1.cell? ⟨w.heap.size, 1, none⟩ = some (.int .i64 s) := by simpa using cell_of_heap hg 1
  have g2 : w1.cell? ⟨w.heap.size, 2, none⟩ = some (.slice a n cap) := by simpa using cell_of_heap hg 2
  replace hg := hidI hg
  replace hk := hidI hk
  go_enter Try.func116, Try.ntmps116
  go_wp2_with fail
  rw [← hw1.out]
  refine hcl.mono ?_
  intro e w2 h2
  obtain ⟨v2, rfl, hrow, hb2⟩ := h2
  obtain ⟨b, cap2, hv2⟩ : ∃ b c, v2 = Value.slice b es.length c := by
    obtain ⟨_, ⟨h1, h2⟩ | ⟨g, cap', cur, h1, _⟩⟩ := hrow
    · exact ⟨none, 0, by rw [h1, h2]⟩
    · exact ⟨_, _, h1⟩
  subst hv2
  rw [← hn.out]
  rw [← hn.out] at hrow
  have hk1 : w2.heap[w.heap.size]? = some (.cells #[.int .i64 r, .int .i64 s, .slice a n cap] 29 (0, 0)) := by rw [hb2.block _ (by have := hs1.out; omega)]; exact hg.out
  have hk2 : w2.heap[w.heap.size + 1]? = some (.cells #[.int .i64 0, .int .i64 0, .slice none 0 0] 29 (0, 0)) := by rw [hb2.block _ (by have := hs1.out; omega)]; exact hk.out
  obtain ⟨w3, hw3⟩ : ∃ w3, w3 = w2.setCell ⟨w.heap.size, 2, none⟩ (.slice b n cap2) := ⟨_, rfl⟩
  have q0 := cell_of_heap hk1 0
  have q1 := cell_of_heap hk1 1
  have q2 := cell_of_heap hk1 2
  have k0 := cell_of_heap hk2 0
  have k1 := cell_of_heap hk2 1
  have k2 := cell_of_heap hk2 2
  have f1 := fun j => frozen_of_row w2 w.heap.size j _ _ hk1
  have f2 := fun j => frozen_of_row w2 (w.heap.size + 1) j _ _ hk2
  simp at q0 q1 q2 k0 k1 k2
  have hbz := hb1.trans (hb2.mono hb1.size)
  have hfin : LwGraphO w r s es (.returned (.agg #[.int .i64 r, .int .i64 s, .slice b n cap2])) ((((w2.setCell ⟨w.heap.size, 2, none⟩ (.slice b n cap2)).setCell ⟨w.heap.size + 1, 0, none⟩ (.int .i64 r)).setCell ⟨w.heap.size + 1, 1, none⟩ (.int .i64 s)).setCell ⟨w.heap.size + 1, 2, none⟩ (.slice b n cap2)) := by
    have hs := hs1.out
    refine ⟨b, cap2, by rw [hn.out], ?_, below_set3 (hbz.setCell (p := ⟨w.heap.size, 2, none⟩) (Nat.le_refl _) _) (by omega)⟩
    have hlt := World.ownsRow.lt hrow
    rw [← hn.out]
    exact OwnsS.mono (OwnsS.other hrow (fun k hk => by
      have := (hlt k hk).1
      rw [heap_set3 (by omega), Below.heap_setCell _ _ _ _ (show k ≠ w.heap.size by omega)])) (by omega)
  have hky : (w2.setCell ⟨w.heap.size, 2, none⟩ (.slice b n cap2)).heap[w.heap.size + 1]? = some (.cells #[.int .i64 0, .int .i64 0, .slice none 0 0] 29 (0, 0)) := by
    rw [Below.heap_setCell _ _ _ _ (show w.heap.size + 1 ≠ w.heap.size by omega)]; exact hk2
  replace hfin := hidI hfin
  replace hky := hidI hky
  replace hk1 := hidI hk1
  replace hk2 := hidI hk2
  replace hw3 := hidI hw3
  replace hrow := hidI hrow
  clear g0 g1 g2
  go_wp2
  (try simp only [Exit.inBlock, Exit.then])
  refine ret_cell rfl (g := w.heap.size + 1) rfl (set3 hky.out _ _ _) Try.underlying29 sizeGraph ?_
  exact hfin.out
/-- The edge that a letter passes from u to v. -/
def eB (u l v : Int) : Ed := if l < 0 then (v, -l, u) else (u, l, v)
set_option maxHeartbeats 800000 in
theorem between_edge (w : World) (u l v : Int) (hl : -9223372036854775807 ≤ l) (hl2 : l ≤ 9223372036854775807) :
    Calls Try.prog 63 #[.int .i64 u, .int .i64 l, .int .i64 v] w fun x w' => x = .returned (.agg #[.int .i64 (eB u l v).1, .int .i64 (eB u l v).2.1, .int .i64 (eB u l v).2.2]) ∧ Below w.heap.size w w' := by
  obtain ⟨w1, hw1⟩ : ∃ z, z = w.alloc (.cells #[.int .i64 0, .int .i64 0, .int .i64 0] 44) := ⟨_, rfl⟩
  have hb1 : Below w.heap.size w w1 := by rw [hw1]; exact (Below.refl _ _).alloc (Nat.le_refl _) _
  have hk1 := heap_alloc_new w (.cells #[.int .i64 0, .int .i64 0, .int .i64 0] 44)
  rw [← hw1] at hk1
  have c0 := cell_of_heap hk1 0
  have c1 := cell_of_heap hk1 1
  have c2 := cell_of_heap hk1 2
  have f1 := fun j => frozen_of_row w1 w.heap.size j _ _ hk1
  simp at c0 c1 c2
  replace hw1 := hidI hw1
  replace hk1 := hidI hk1
  by_cases h : l < 0
  · have he : eB u l v = (v, -l, u) := if_pos h
    have hq : wrap64 (-l) = -l := by unfold wrap64; omega
    rw [he]
    replace he := hidI he
    go_enter Try.func63, Try.ntmps63
    go_upto_region 1 with fail
    rw [← hw1.out]
    go_wp2
    (try simp only [Exit.inBlock, Exit.then])
    refine ret_cell rfl (g := w.heap.size) rfl (set3 hk1.out _ _ _) Try.underlying44 sizeEdge ?_
    refine ⟨?_, below_set3 hb1 (Nat.le_refl _)⟩
    first | rfl | (try simp only [hq]; try rfl)
  · have he : eB u l v = (u, l, v) := if_neg h
    rw [he]
    replace he := hidI he
    go_enter Try.func63, Try.ntmps63
    go_upto_region 1 with fail
    rw [← hw1.out]
    go_wp2
    (try simp only [Exit.inBlock, Exit.then])
    refine ret_cell rfl (g := w.heap.size) rfl (set3 hk1.out _ _ _) Try.underlying44 sizeEdge ?_
    exact ⟨rfl, below_set3 hb1 (Nat.le_refl _)⟩
/-- out = append(out, e), inside a region: e lies in a block of its own. -/
theorem step_pushE_at {w0 : World} {o : Oper} {a : Act} {K : Act → World → Prop} {Q : Exit → Act → World → Prop} (s x : Operand)
    (ho : o.op = .call { callee := .builtin .append, args := #[s, x], argTypes := #[26, 26] }) (base : Nat) (v : Value) (es : List Ed) (e : Ed) (blk : Nat)
    (hs : a.eval s = v) (hx : a.eval x = .slice (some ⟨blk, 0, none⟩) 1 1) (hown : OwnsE w0 base v es) (hc : w0.heap[blk]? = some (.cells #[.int .i64 e.1, .int .i64 e.2.1, .int .i64 e.2.2] 44 (0, 0))) (hl : es.length ≤ 1000000000) (hbase : base ≤ w0.heap.size)
    (h : ∀ v' w', OwnsE w' base v' (es ++ [e]) → w0.grownBy w' v.ownBlock → (v'.ownBlock = v.ownBlock ∨ v'.ownBlock = some w0.heap.size) → K (a.put o.dst v') w') :
    Oper.wp Try.prog o a w0 K Q := by
  obtain ⟨i0, hi, hz0, hz1, hz2⟩ := info_parts infoEdge
  obtain ⟨v', w', hrun, h2, h3, h4, h5⟩ := run_append_own_at (P := Try.prog) w0 base 26 o.type 44 i0 _ 3 24 Try.underlying26 hi hz0 hz1 hz2 rfl (by decide) v es.length ((flatE es).map iv) hown ⟨blk, 0, none⟩ 1 1 [iv e.1, iv e.2.1, iv e.2.2] rfl (by
      intro j u hj
      rw [addr_plus, Nat.zero_add]
      have c := cell_of_heap hc j
      match j, hj with
      | 0, hj => simp at hj; subst hj; simpa [iv] using c
      | 1, hj => simp at hj; subst hj; simpa [iv] using c
      | 2, hj => simp at hj; subst hj; simpa [iv] using c) (by
      intro u hu
      simp at hu
      rcases hu with rfl | rfl | rfl <;> rfl) (by unfold maxLen; omega) (by omega) hbase
  unfold Oper.wp execOp
  simp only [ho, resolve, invoke, builtin, Sem.run_bind, Sem.run_pure, Result.andThen_ok, List.map_toArray, List.map_cons, List.map_nil, hs, hx, hrun]
  exact h v' w' (by unfold OwnsE OwnsS; rw [flatE_append, List.length_append, List.map_append]; simpa [flatE] using h2) h3 h5
/-- What AddPath's closure and its caller share: the graph's box G, the vertex's box A, the row of edges. -/
structure PathSt (w : World) (G A base : Nat) (r s y : Int) (v : Value) (es : List Ed) : Prop where
  box : w.heap[G]? = some (.cells #[.int .i64 r, .int .i64 s, v] 29 (0, 0))
  at_ : w.heap[A]? = some (.cells #[.int .i64 y] 3 (0, 0))
  row : OwnsE w base v es
  vG : v.ownBlock ≠ some G
  vA : v.ownBlock ≠ some A
  GA : G < base ∧ base ≤ A ∧ A < w.heap.size
/-- What lies below the row's base stays, but for the graph's box. -/
def KeptBut (B G : Nat) (w w' : World) : Prop := w'.os = w.os ∧ w'.tape = w.tape ∧ w'.output = w.output ∧ w.heap.size ≤ w'.heap.size ∧ ∀ k, k < B → k ≠ G → w'.heap[k]? = w.heap[k]?
theorem KeptBut.refl (B G : Nat) (w : World) : KeptBut B G w w := ⟨rfl, rfl, rfl, Nat.le_refl _, fun _ _ _ => rfl⟩
theorem KeptBut.trans {B G : Nat} {a b c : World} (h : KeptBut B G a b) (k : KeptBut B G b c) : KeptBut B G a c :=
  ⟨k.1.trans h.1, k.2.1.trans h.2.1, k.2.2.1.trans h.2.2.1, Nat.le_trans h.2.2.2.1 k.2.2.2.1, fun i hi hne => (k.2.2.2.2 i hi hne).trans (h.2.2.2.2 i hi hne)⟩
theorem KeptBut.of_below {B G : Nat} {a b : World} (h : Below B a b) : KeptBut B G a b := ⟨h.os, h.tape, h.output, h.size, fun k hk _ => h.block k hk⟩
theorem KeptBut.below {B G : Nat} {a b : World} (h : KeptBut B G a b) (hG : G ≤ B) : Below G a b := ⟨h.1, h.2.1, h.2.2.1, h.2.2.2.1, fun k hk => h.2.2.2.2 k (by omega) (by omega)⟩
def LeadRet (w : World) (G A base : Nat) (r s y : Int) (es : List Ed) (e : Ending) (w' : World) : Prop :=
  e = .returned (.tuple #[]) ∧ (∃ v', PathSt w' G A base r s y v' es) ∧ KeptBut base G w w'
/-- What the closure leaves behind its two stores. -/
theorem lead_fin {w wd w3 w4 w5 : World} {G A base : Nat} {r s y nx : Int} {v va5 : Value} {es' : List Ed} (hGA : G < base ∧ base ≤ A ∧ A < w.heap.size) (hvG : v.ownBlock ≠ some G) (hvA : v.ownBlock ≠ some A) (hbw : Below w.heap.size w wd) (hb3 : Below wd.heap.size wd w3) (hb4 : Below w3.heap.size w3 w4) (hg5 : w4.grownBy w5 v.ownBlock) (hown5 : OwnsE w5 base va5 es')
    (hat5 : va5.ownBlock = v.ownBlock ∨ va5.ownBlock = some w4.heap.size) {v0 : Value} (hG5 : w5.heap[G]? = some (.cells #[.int .i64 r, .int .i64 s, v0] 29 (0, 0))) (hA5 : w5.heap[A]? = some (.cells #[.int .i64 y] 3 (0, 0))) (h4 : w.heap.size ≤ w4.heap.size) (hbv : ∀ k, v.ownBlock = some k → base ≤ k) :
    LeadRet w G A base r s nx es' (.returned (.tuple #[])) ((w5.setCell ⟨G, 2, none⟩ va5).setCell ⟨A, 0, none⟩ (.int .i64 nx)) := by
  have hs5 := hg5.size
  have hne : A ≠ G := by omega
  have hv5G : va5.ownBlock ≠ some G := by
    rcases hat5 with e | e
    · rw [e]; exact hvG
    · rw [e]; simp; omega
  have hv5A : va5.ownBlock ≠ some A := by
    rcases hat5 with e | e
    · rw [e]; exact hvA
    · rw [e]; simp; omega
  refine ⟨rfl, ⟨va5, ⟨?_, ?_, ?_, hv5G, hv5A, ⟨hGA.1, hGA.2.1, by simp [World.setCell]; omega⟩⟩⟩, ?_⟩
  · rw [Below.heap_setCell _ _ _ _ (show G ≠ A by omega)]
    have := heap_setCell_same w5 G 2 _ _ va5 hG5
    simpa using this
  · have h1 : (w5.setCell ⟨G, 2, none⟩ va5).heap[A]? = some (.cells #[.int .i64 y] 3 (0, 0)) := by rw [Below.heap_setCell _ _ _ _ hne]; exact hA5
    have := heap_setCell_same _ A 0 _ _ (.int .i64 nx) h1
    simpa using this
  · exact OwnsS.other hown5 (fun k hk => by
      rw [Below.heap_setCell _ _ _ _ (show k ≠ A by rintro rfl; exact hv5A hk), Below.heap_setCell _ _ _ _ (show k ≠ G by rintro rfl; exact hv5G hk)])
  · have hb := hbw.trans (hb3.mono hbw.size)
    have hb' := hb.trans (hb4.mono hb.size)
    refine ⟨?_, ?_, ?_, ?_, fun k hk hkG => ?_⟩
    · exact hg5.os.trans hb'.os
    · exact hg5.tape.trans hb'.tape
    · exact hg5.output.trans hb'.output
    · have := hb'.size; simp [World.setCell]; omega
    · rw [Below.heap_setCell _ _ _ _ (show k ≠ A by omega), Below.heap_setCell _ _ _ _ hkG, hg5.block k (by omega) (fun e => by have := hbv k e.symm; omega), hb'.block k (by omega)]
end Go.Proofs.Ytacmpbekgipkfaa

namespace Go.Proofs.Ytacmpbekgipkfaa
open Go.RowKit
set_option linter.unusedVariables false
set_option linter.unusedSimpArgs false

/-- Of the first p edges those that differ from the one before. -/
def dd (ds : List Ed) : Nat → List Ed
  | 0 => []
  | p + 1 => if p = 0 ∨ ds.getD p e0 ≠ ds.getD (p - 1) e0 then dd ds p ++ [ds.getD p e0] else dd ds p
theorem dd_yes {ds : List Ed} {p : Nat} (h : p = 0 ∨ ds.getD p e0 ≠ ds.getD (p - 1) e0) : dd ds (p + 1) = dd ds p ++ [ds.getD p e0] := by rw [dd, if_pos h]
theorem dd_no {ds : List Ed} {p : Nat} (h0 : p ≠ 0) (h : ds.getD p e0 = ds.getD (p - 1) e0) : dd ds (p + 1) = dd ds p := by
  rw [dd, if_neg]
  rintro (e | e)
  · exact h0 e
  · exact e h
theorem dd_len (ds : List Ed) : ∀ p, (dd ds p).length ≤ p := by
  intro p
  induction p with
  | zero => simp [dd]
  | succ p ih =>
    rw [dd]
    split
    · rw [List.length_append, List.length_singleton]; omega
    · omega
theorem dd_all {ds : List Ed} : ∀ p, p ≤ ds.length → (∀ j, 0 < j → j < p → ds.getD j e0 ≠ ds.getD (j - 1) e0) → dd ds p = ds.take p := by
  intro p
  induction p with
  | zero => intro _ _; rfl
  | succ p ih =>
    intro hp h
    rw [dd_yes (by
      rcases Nat.eq_zero_or_pos p with h0 | h0
      · exact .inl h0
      · exact .inr (h p h0 (by omega))), ih (by omega) (fun j h1 h2 => h j h1 (by omega)), List.take_add_one, List.getElem?_eq_getElem (by omega), List.getD_eq_getElem?_getD, List.getElem?_eq_getElem (by omega)]
    rfl
theorem flatE_set : ∀ (C : List Ed) (k : Nat) (e : Ed), k < C.length → (((flatE C).set (k * 3) e.1).set (k * 3 + 1) e.2.1).set (k * 3 + 2) e.2.2 = flatE (C.set k e) := by
  intro C
  induction C with
  | nil => intro k e h; simp at h
  | cons c C ih =>
    intro k e h
    cases k with
    | zero => simp [flatE]
    | succ k =>
      have := ih k e (by simpa using h)
      rw [show (k + 1) * 3 = k * 3 + 1 + 1 + 1 by omega]
      simp only [flatE, List.set_cons_succ]
      rw [this]
theorem setCells_part {b : Nat} {T : TypeId} : ∀ (vs : List Value) (o : Nat) (w : World) (cur : Array Value), w.heap[b]? = some (.cells cur T (0, 0)) → ∃ cur' : Array Value, (w.setCells b o vs).heap[b]? = some (.cells cur' T (0, 0)) ∧ cur'.size = cur.size ∧ ∀ k, k < o → cur'[k]? = cur[k]? := by
  intro vs
  induction vs with
  | nil => intro o w cur h; exact ⟨cur, h, rfl, fun _ _ => rfl⟩
  | cons v vs ih =>
    intro o w cur h
    obtain ⟨c', h1, h2, h3⟩ := ih (o + 1) (w.setCell ⟨b, o, none⟩ v) (cur.setIfInBounds o v) (heap_setCell_same w b o cur _ _ h)
    refine ⟨c', h1, by rw [h2]; simp, fun k hk => ?_⟩
    rw [h3 k (by omega), Array.getElem?_setIfInBounds_ne (by omega)]
theorem setCells_other {b k : Nat} (hk : k ≠ b) : ∀ (vs : List Value) (o : Nat) (w : World), (w.setCells b o vs).heap[k]? = w.heap[k]? := by
  intro vs
  induction vs with
  | nil => intro o w; rfl
  | cons v vs ih =>
    intro o w
    show ((w.setCell ⟨b, o, none⟩ v).setCells b (o + 1) vs).heap[k]? = _
    rw [ih, Below.heap_setCell _ _ _ _ hk]
theorem setCells_same {b : Nat} : ∀ (vs : List Value) (o : Nat) (w : World), (w.setCells b o vs).os = w.os ∧ (w.setCells b o vs).tape = w.tape ∧ (w.setCells b o vs).output = w.output ∧ (w.setCells b o vs).heap.size = w.heap.size := by
  intro vs
  induction vs with
  | nil => intro o w; exact ⟨rfl, rfl, rfl, rfl⟩
  | cons v vs ih =>
    intro o w
    obtain ⟨h1, h2, h3, h4⟩ := ih (o + 1) (w.setCell ⟨b, o, none⟩ v)
    refine ⟨h1, h2, h3, h4.trans (by simp [World.setCell])⟩
theorem zeroEdges (n : Nat) : (Builtin.zeroCells #[.int .i64 0, .int .i64 0, .int .i64 0] n).toList = List.replicate (n * 3) (.int .i64 0) := by
  unfold Builtin.zeroCells
  apply List.ext_getElem?
  intro i
  simp only [Array.toList_map, Array.toList_range, List.getElem?_map]
  by_cases h : i < n * 3
  · have h3 : i % 3 < 3 := Nat.mod_lt _ (by omega)
    rw [show #[Value.int .i64 0, Value.int .i64 0, Value.int .i64 0].size = 3 from rfl, List.getElem?_range h, List.getElem?_replicate, if_pos h]
    have e : i % 3 = 0 ∨ i % 3 = 1 ∨ i % 3 = 2 := by omega
    rcases e with e | e | e <;> simp [e]
  · rw [List.getElem?_eq_none (by simpa using h), List.getElem?_eq_none (by simpa using h)]
    rfl
theorem clear_edges (w : World) (ty : TypeId) (b o n c : Nat) (hn : 0 < n) (hc : ∀ j, j < n * 3 → (w.cell? ⟨b, o + j, none⟩).isSome = true) (hf : ∀ j, j < n * 3 → w.frozen? ⟨b, o + j, none⟩ = false) :
    (Builtin.clear_ #[26] ty #[.slice (some ⟨b, o, none⟩) n c]).run Try.prog w = .ok (.tuple #[]) (w.setCells b o (List.replicate (n * 3) (.int .i64 0))) := by
  have hst := run_storeCells_cells (P := Try.prog) b o (List.replicate (n * 3) (.int .i64 0)) 0 w (by simpa using hc) (by simpa using hf) (by intro v hv'; rw [List.eq_of_mem_replicate hv']; rfl)
  simp only [Nat.add_zero] at hst
  obtain ⟨m, rfl⟩ : ∃ m, n = m + 1 := ⟨n - 1, by omega⟩
  have hz : (zeroValue 44).run Try.prog w = .ok (.agg #[.int .i64 0, .int .i64 0, .int .i64 0]) w := Try.zeroValue44 w
  have hzc := zeroEdges (m + 1)
  simp [Builtin.clear_, run_underlying Try.underlying26, hz, Value.cells, hzc, hst]
/-- What slices.Compact leaves. -/
def CompRet (w : World) (base g cap : Nat) (es : List Ed) (e : Ending) (w' : World) : Prop :=
  e = .returned (.slice (some ⟨g, 0, none⟩) es.length cap) ∧ w.grownBy w' (some g) ∧ OwnsE w' base (.slice (some ⟨g, 0, none⟩) es.length cap) es
theorem grownBy_drewN (w : World) (m g : Nat) : w.grownBy (w.drewN m) (some g) := ⟨rfl, rfl, rfl, Nat.le_refl _, fun _ _ _ => rfl⟩
/-- Behind the clearing. -/
theorem comp_fin {w wr : World} {base g cap n k : Nat} {C es : List Ed} (hown : OwnsE wr base (.slice (some ⟨g, 0, none⟩) n cap) C) (hC : C.length = n) (hg : w.grownBy wr (some g)) (hk : k ≤ n) (hes : C.take k = es) (vs : List Value) :
    CompRet w base g cap es (.returned (.slice (some ⟨g, 0, none⟩) k cap)) (wr.setCells g (k * 3) vs) := by
  have hlen : es.length = k := by rw [← hes, List.length_take]; omega
  obtain ⟨h1, h2 | ⟨g', cap', cur, hv, hb, hh, hc1, hc2, hc3, hc4⟩⟩ := hown
  · cases h2.1
  · cases hv
    obtain ⟨cur', q1, q2, q3⟩ := setCells_part vs (k * 3) wr cur hh
    obtain ⟨s1, s2, s3, s4⟩ := setCells_same (b := g) vs (k * 3) wr
    refine ⟨by rw [hlen], ⟨s1.trans hg.os, s2.trans hg.tape, s3.trans hg.output, by rw [s4]; exact hg.size, fun j hj hne => ?_⟩, by rw [List.length_map, flatE_length], .inr ⟨g, cap, cur', by rw [hlen], hb, q1, by rw [hlen]; omega, hc2, by rw [q2]; exact hc3, ?_⟩⟩
    · rw [setCells_other (fun e => hne (by rw [e]))]; exact hg.block j hj hne
    · rw [hlen]
      have ht : (cur.toList.take (C.length * 3)).take (k * 3) = ((flatE C).map iv).take (k * 3) := by rw [hc4]
      rw [List.take_take, Nat.min_eq_left (by omega)] at ht
      have hf : ((flatE C).map iv).take (k * 3) = (flatE es).map iv := by
        rw [← List.map_take, ← hes]
        congr 1
        have : flatE C = flatE (C.take k) ++ flatE (C.drop k) := by rw [← flatE_append, List.take_append_drop]
        rw [this, List.take_append_of_le_length (by rw [flatE_length, List.length_take]; omega), List.take_of_length_le (by rw [flatE_length, List.length_take]; omega)]
      rw [← hf, ← ht]
      apply List.ext_getElem?
      intro i
      rw [List.getElem?_take, List.getElem?_take]
      split
      · rw [Array.getElem?_toList, Array.getElem?_toList]; exact q3 i (by assumption)
      · rfl
theorem OwnsE.at3 {w : World} {base g cap n : Nat} {C : List Ed} (h : OwnsE w base (.slice (some ⟨g, 0, none⟩) n cap) C) {i : Nat} (hi : i < C.length) :
    w.cell? ⟨g, i * 3, none⟩ = some (.int .i64 (C.getD i e0).1) ∧ w.cell? ⟨g, i * 3 + 1, none⟩ = some (.int .i64 (C.getD i e0).2.1) ∧ w.cell? ⟨g, i * 3 + 2, none⟩ = some (.int .i64 (C.getD i e0).2.2) := by
  have hn : n = C.length := by
    obtain ⟨_, h2 | ⟨g', cap', cur, hv, _⟩⟩ := h
    · cases h2.1
    · cases hv; rfl
  subst hn
  obtain ⟨h0, h1, h2⟩ := flatE_at C i hi
  have key : ∀ m z, m < C.length * 3 → (flatE C).getD m 0 = z → w.cell? ⟨g, m, none⟩ = some (.int .i64 z) := fun m z hm hz => by
    rw [World.ownsRow.cellAt h m hm, List.getElem?_map, ← hz, List.getD_eq_getElem?_getD]
    have : m < (flatE C).length := by rw [flatE_length]; exact hm
    rw [List.getElem?_eq_getElem this]
    rfl
  exact ⟨key _ _ (by omega) h0, key _ _ (by omega) h1, key _ _ (by omega) h2⟩
/-- The state of Compact's inner loop: p edges looked at, k kept. -/
def CompSt (w wr : World) (base g cap : Nat) (ds : List Ed) (p k : Nat) : Prop :=
  ∃ C : List Ed, C.length = ds.length ∧ OwnsE wr base (.slice (some ⟨g, 0, none⟩) ds.length cap) C ∧ C.take k = dd ds p ∧ (∀ j, p - 1 ≤ j → j < ds.length → C.getD j e0 = ds.getD j e0) ∧ w.grownBy wr (some g)
theorem CompSt.put {w wr : World} {base g cap : Nat} {ds : List Ed} {p k : Nat} {f l t : Int} (h : CompSt w wr base g cap ds p k) (hp : p < ds.length) (hk : k + 1 ≤ p) (he : ds.getD p e0 = (f, l, t)) (hd : p = 0 ∨ ds.getD p e0 ≠ ds.getD (p - 1) e0) (m : Nat) :
    CompSt w ((((wr.drewN m).setCell ⟨g, k * 3, none⟩ (.int .i64 f)).setCell ⟨g, k * 3 + 1, none⟩ (.int .i64 l)).setCell ⟨g, k * 3 + 2, none⟩ (.int .i64 t)) base g cap ds (p + 1) (k + 1) := by
  obtain ⟨C, h1, h2, h3, h4, h5⟩ := h
  have h2' : OwnsE (wr.drewN m) base (.slice (some ⟨g, 0, none⟩) ds.length cap) C := h2
  have hst := OwnsS.put (OwnsS.put (OwnsS.put (h1 ▸ h2') (k * 3) f) (k * 3 + 1) l) (k * 3 + 2) t
  refine ⟨C.set k (f, l, t), by rw [List.length_set, h1], ?_, ?_, fun j hj hjl => ?_, ?_⟩
  · have hfs := flatE_set C k (f, l, t) (by omega)
    simp only at hfs
    rw [hfs] at hst
    unfold OwnsE
    rw [List.length_set]
    exact h1 ▸ hst
  · rw [dd_yes hd, he, ← h3, List.take_add_one, List.getElem?_set_self (by omega), List.take_set_of_le (Nat.le_refl _)]
    rfl
  · rw [List.getD_eq_getElem?_getD, List.getElem?_set_ne (by omega), ← List.getD_eq_getElem?_getD]
    exact h4 j (by omega) hjl
  · refine ⟨h5.os, h5.tape, h5.output, by simpa [World.setCell] using h5.size, fun j hj hne => ?_⟩
    have hjg : j ≠ g := fun e => hne (by rw [e])
    rw [Below.heap_setCell _ _ _ _ hjg, Below.heap_setCell _ _ _ _ hjg, Below.heap_setCell _ _ _ _ hjg]
    exact h5.block j hj hne
theorem CompSt.skip {w wr : World} {base g cap : Nat} {ds : List Ed} {p k : Nat} (h : CompSt w wr base g cap ds p k) (hp0 : p ≠ 0) (he : ds.getD p e0 = ds.getD (p - 1) e0) (m : Nat) : CompSt w (wr.drewN m) base g cap ds (p + 1) k := by
  obtain ⟨C, h1, h2, h3, h4, h5⟩ := h
  exact ⟨C, h1, h2, by rw [dd_no hp0 he]; exact h3, fun j hj hjl => h4 j (by omega) hjl, ⟨h5.os, h5.tape, h5.output, h5.size, h5.block⟩⟩
end Go.Proofs.Ytacmpbekgipkfaa

namespace Go.Proofs.Ytacmpbekgipkfaa
open Go.RowKit
set_option linter.unusedVariables false
set_option linter.unusedSimpArgs false

abbrev AscE (es : List Ed) : Prop := es.Pairwise (fun a b => cmpE a b < 0)
theorem asc_of_gr {r s : Int} {es : List Ed} (h : isGr r s es = true) : AscE es := by
  obtain ⟨hp, _⟩ := isGr_iff.1 h
  have hstep : ∀ i, 0 < i → i < es.length → cmpE (es.getD (i - 1) e0) (es.getD i e0) < 0 := fun i h0 hi => by
    have := hp i hi
    unfold placeOk at this
    simp only [Bool.and_eq_true, Bool.or_eq_true, decide_eq_true_eq] at this
    rcases this.2 with h | h
    · omega
    · exact h
  have hfar : ∀ d i, i + d + 1 < es.length → cmpE (es.getD i e0) (es.getD (i + d + 1) e0) < 0 := by
    intro d
    induction d with
    | zero => intro i hi; exact hstep (i + 1) (by omega) hi
    | succ d ih =>
      intro i hi
      exact cmpE_trans (ih i (by omega)) (hstep (i + (d + 1) + 1) (by omega) hi)
  unfold AscE
  rw [List.pairwise_iff_getElem]
  intro i j hi hj hij
  have := hfar (j - i - 1) i (by omega)
  rw [show i + (j - i - 1) + 1 = j by omega, List.getD_eq_getElem?_getD, List.getD_eq_getElem?_getD, List.getElem?_eq_getElem hi, List.getElem?_eq_getElem hj] at this
  exact this
theorem putE_mem {e x : Ed} : ∀ {es : List Ed}, x ∈ putE e es ↔ x = e ∨ x ∈ es := by
  intro es
  induction es with
  | nil => simp [putE]
  | cons y ys ih =>
    rcases cmpE_cases e y with c | c | c
    · rw [putE_lt ys (by omega)]; simp
    · rw [putE_eq ys c]
      have := cmpE_zero c
      subst this
      simp
    · rw [putE_gt ys (by omega), List.mem_cons, ih, List.mem_cons]
      constructor
      · rintro (h | h | h)
        · exact .inr (.inl h)
        · exact .inl h
        · exact .inr (.inr h)
      · rintro (h | h | h)
        · exact .inr (.inl h)
        · exact .inl h
        · exact .inr (.inr h)
theorem putE_asc (e : Ed) : ∀ {es : List Ed}, AscE es → AscE (putE e es) := by
  intro es
  induction es with
  | nil => intro _; exact List.pairwise_singleton _ _
  | cons y ys ih =>
    intro h
    have hp := List.pairwise_cons.1 h
    rcases cmpE_cases e y with c | c | c
    · rw [putE_lt ys (by omega)]
      refine List.pairwise_cons.2 ⟨fun z hz => ?_, h⟩
      rcases List.mem_cons.1 hz with hz | hz
      · rw [hz]; omega
      · exact cmpE_trans (by omega : cmpE e y < 0) (hp.1 z hz)
    · rw [putE_eq ys c]; exact h
    · rw [putE_gt ys (by omega)]
      refine List.pairwise_cons.2 ⟨fun z hz => ?_, ih hp.2⟩
      rcases putE_mem.1 hz with hz | hz
      · rw [hz]; have := cmpE_neg e y; omega
      · exact hp.1 z hz
/-- All put, one by one. -/
def putAll (es L : List Ed) : List Ed := L.foldl (fun acc e => putE e acc) es
theorem putAll_snoc (es L : List Ed) (e : Ed) : putAll es (L ++ [e]) = putE e (putAll es L) := by unfold putAll; rw [List.foldl_append]; rfl
theorem putAll_spec : ∀ (L es : List Ed), AscE es → AscE (putAll es L) ∧ ∀ x, x ∈ putAll es L ↔ x ∈ es ∨ x ∈ L := by
  intro L
  induction L with
  | nil => intro es h; exact ⟨h, fun x => by simp [putAll]⟩
  | cons e L ih =>
    intro es h
    obtain ⟨h1, h2⟩ := ih (putE e es) (putE_asc e h)
    refine ⟨h1, fun x => ?_⟩
    show x ∈ putAll (putE e es) L ↔ _
    rw [h2, putE_mem, List.mem_cons]
    constructor
    · rintro ((h | h) | h)
      · exact .inr (.inl h)
      · exact .inl h
      · exact .inr (.inr h)
    · rintro (h | h | h)
      · exact .inl (.inr h)
      · exact .inl (.inl h)
      · exact .inr h
theorem putAll_length (L : List Ed) : ∀ es, (putAll es L).length ≤ es.length + L.length := by
  induction L with
  | nil => intro es; simp [putAll]
  | cons e L ih =>
    intro es
    have h1 := ih (putE e es)
    have h2 := putE_length e es
    show (putAll (putE e es) L).length ≤ _
    rw [List.length_cons]
    omega
theorem ascE_ext : ∀ {a b : List Ed}, AscE a → AscE b → (∀ x, x ∈ a ↔ x ∈ b) → a = b := by
  intro a
  induction a with
  | nil =>
    intro b _ _ h
    cases b with
    | nil => rfl
    | cons y ys => exact absurd ((h y).2 List.mem_cons_self) (by simp)
  | cons x xs ih =>
    intro b ha hb h
    cases b with
    | nil => exact absurd ((h x).1 List.mem_cons_self) (by simp)
    | cons y ys =>
      have hxa := List.pairwise_cons.1 ha
      have hyb := List.pairwise_cons.1 hb
      have hxy : x = y := by
        rcases List.mem_cons.1 ((h x).1 List.mem_cons_self) with e | e
        · exact e
        · rcases List.mem_cons.1 ((h y).2 List.mem_cons_self) with e2 | e2
          · exact e2.symm
          · have h1 := hyb.1 x e
            have h2 := hxa.1 y e2
            have := cmpE_neg x y
            omega
      subst hxy
      congr 1
      refine ih hxa.2 hyb.2 fun z => ⟨fun hz => ?_, fun hz => ?_⟩
      · rcases List.mem_cons.1 ((h z).1 (List.mem_cons_of_mem _ hz)) with e | e
        · subst e; have := hxa.1 z hz; rw [cmpE_self] at this; omega
        · exact e
      · rcases List.mem_cons.1 ((h z).2 (List.mem_cons_of_mem _ hz)) with e | e
        · subst e; have := hyb.1 z hz; rw [cmpE_self] at this; omega
        · exact e
theorem getE_el {es : List Ed} {i : Nat} (h : i < es.length) : es.getD i e0 = es[i] := by rw [List.getD_eq_getElem?_getD, List.getElem?_eq_getElem h]; rfl
/-- Sorted edges made compact are strictly ascending and have the same members. -/
theorem dd_spec {ds : List Ed} (hs : ds.Pairwise (fun a b => ¬ cmpE b a < 0)) : ∀ p, p ≤ ds.length → AscE (dd ds p) ∧ (∀ x, x ∈ dd ds p ↔ ∃ i, i < p ∧ x = ds.getD i e0) ∧ (0 < p → ∀ x ∈ dd ds p, x = ds.getD (p - 1) e0 ∨ cmpE x (ds.getD (p - 1) e0) < 0) := by
  intro p
  induction p with
  | zero => intro _; exact ⟨List.Pairwise.nil, fun x => by simp [dd], fun h => by omega⟩
  | succ p ih =>
    intro hp
    obtain ⟨h1, h2, h3⟩ := ih (by omega)
    by_cases hd : p = 0 ∨ ds.getD p e0 ≠ ds.getD (p - 1) e0
    · rw [dd_yes hd]
      have hlt : ∀ x ∈ dd ds p, cmpE x (ds.getD p e0) < 0 := fun x hx => by
        rcases Nat.eq_zero_or_pos p with h0 | h0
        · subst h0; simp [dd] at hx
        · have hne : ds.getD p e0 ≠ ds.getD (p - 1) e0 := by
            rcases hd with h | h
            · omega
            · exact h
          have hle : ¬ cmpE (ds.getD p e0) (ds.getD (p - 1) e0) < 0 := by
            rw [getE_el (show p < ds.length by omega), getE_el (show p - 1 < ds.length by omega)]
            exact (List.pairwise_iff_getElem.1 hs) (p - 1) p (by omega) (by omega) (by omega)
          have hn := cmpE_neg (ds.getD (p - 1) e0) (ds.getD p e0)
          have hlt : cmpE (ds.getD (p - 1) e0) (ds.getD p e0) < 0 := by
            rcases cmpE_cases (ds.getD (p - 1) e0) (ds.getD p e0) with c | c | c
            · omega
            · exact absurd (cmpE_zero c).symm hne
            · omega
          rcases h3 h0 x hx with e | e
          · rw [e]; exact hlt
          · exact cmpE_trans e hlt
      refine ⟨?_, fun x => ?_, fun _ x hx => ?_⟩
      · unfold AscE
        rw [List.pairwise_append]
        refine ⟨h1, List.pairwise_singleton _ _, fun a ha b hb => ?_⟩
        rw [List.mem_singleton] at hb
        rw [hb]; exact hlt a ha
      · rw [List.mem_append, h2, List.mem_singleton]
        constructor
        · rintro (⟨i, hi, e⟩ | e)
          · exact ⟨i, by omega, e⟩
          · exact ⟨p, by omega, e⟩
        · rintro ⟨i, hi, e⟩
          by_cases hip : i = p
          · subst hip; exact .inr e
          · exact .inl ⟨i, by omega, e⟩
      · rw [Nat.add_sub_cancel]
        rcases List.mem_append.1 hx with h | h
        · exact .inr (hlt x h)
        · exact .inl (List.mem_singleton.1 h)
    · have hp0 : p ≠ 0 := fun e => hd (.inl e)
      have he : ds.getD p e0 = ds.getD (p - 1) e0 := by
        by_cases e : ds.getD p e0 = ds.getD (p - 1) e0
        · exact e
        · exact absurd (.inr e) hd
      rw [dd_no hp0 he]
      refine ⟨h1, fun x => ?_, fun _ x hx => ?_⟩
      · rw [h2]
        constructor
        · rintro ⟨i, hi, e⟩; exact ⟨i, by omega, e⟩
        · rintro ⟨i, hi, e⟩
          by_cases hip : i = p
          · subst hip; exact ⟨i - 1, by omega, by rw [e, he]⟩
          · exact ⟨i, by omega, e⟩
      · rw [Nat.add_sub_cancel, he]
        exact h3 (by omega) x hx
theorem sort_put {es L ds : List Ed} (ha : AscE es) (hp : ds.Perm (es ++ L)) (hs : ds.Pairwise (fun a b => ¬ cmpE b a < 0)) : dd ds ds.length = putAll es L := by
  obtain ⟨h1, h2, _⟩ := dd_spec hs ds.length (Nat.le_refl _)
  obtain ⟨g1, g2⟩ := putAll_spec L es ha
  refine ascE_ext h1 g1 fun x => ?_
  rw [h2, g2, ← List.mem_append, ← hp.mem_iff]
  constructor
  · rintro ⟨i, hi, e⟩
    rw [e, getE_el hi]; exact List.getElem_mem hi
  · intro hx
    obtain ⟨i, hi, e⟩ := List.getElem_of_mem hx
    exact ⟨i, hi, by rw [getE_el hi, e]⟩
/-! ### The path -/
end Go.Proofs.Ytacmpbekgipkfaa
