/- Paths of new edges, the program: copies with the row's spare room in sight, edgeBetween, the closure of AddPath (tools/sf1.py). -/
import Derived.Test.YtdeofaimgldklaaGP4
import Derived.Test.YtdeofaimgldklaaLW3
import Derived.Maps.AppendAt
import Derived.Deep.Cut
namespace Go.Proofs.Ytdeofaimgldklaa
open Go.RowKit
set_option linter.unusedVariables false
set_option linter.unusedSimpArgs false

def LwEdgesO (w : World) (es : List Ed) (e : Ending) (w' : World) : Prop := ∃ v, e = .returned v ∧ OwnsE w' w.heap.size v es ∧ Below w.heap.size w w'
def LwGraphO (w : World) (r s : Int) (es : List Ed) (e : Ending) (w' : World) : Prop :=
  ∃ a cap, e = .returned (.agg #[.int .i64 r, .int .i64 s, .slice a es.length cap]) ∧ OwnsE w' w.heap.size (.slice a es.length cap) es ∧ Below w.heap.size w w'
theorem OwnsS.other {T : TypeId} {sz n base : Nat} {w w' : World} {v : Value} {zs : List Int} (h : OwnsS T sz w base v n zs) (hb : ∀ k, v.ownBlock = some k → w'.heap[k]? = w.heap[k]?) : OwnsS T sz w' base v n zs := by
  obtain ⟨h1, h2 | ⟨g, cap, cur, rfl, hg, hh, hr⟩⟩ := h
  · exact ⟨h1, .inl h2⟩
  · exact ⟨h1, .inr ⟨g, cap, cur, rfl, hg, (hb g rfl).trans hh, hr⟩⟩
set_option maxHeartbeats 800000 in
theorem gpCloneO (w : World) (v : Value) (es : List Ed) (h : ReadE w.heap.size w v es) (hl : es.length ≤ 1000000000) :
    Calls Try.prog 64 #[v] w (LwEdgesO w es) := by
  have hread := h
  obtain ⟨hzl, _, a, cap, rfl, ⟨hnil, _⟩, hr⟩ := h
  obtain ⟨n, hn⟩ : ∃ n, n = es.length := ⟨_, rfl⟩
  rcases a with _ | ad
  · have hz : es = [] := by
      rcases hr with h0 | ⟨b, off, ha, _⟩
      · exact List.eq_nil_of_length_eq_zero h0
      · cases ha
    have hc0 := hnil rfl
    subst hc0
    subst hz
    have hr : LwEdgesO w [] (.returned (.slice none 0 0)) w := ⟨_, rfl, OwnsS.nil _ _, Below.refl _ _⟩
    replace hr := hidI hr
    have heq := fun W : World => Lib.run_eql_slice_nil (P := Try.prog) W 30 68 none 0 0 0 0 Try.underlying30
    clear hread hn hnil
    go_enter Try.func64, Try.ntmps64
    go_wp2
    go_ret
    exact hr.out
  · have hlit : OwnsE (w.alloc (.cells #[] 68)) w.heap.size (.slice (some ⟨w.heap.size, 0, none⟩) 0 0) [] := OwnsE.litE w
    have hb0 := (Below.refl w.heap.size w).alloc (Nat.le_refl _) (.cells #[] 68)
    have hx := hread.below hb0
    have hl3 : ([] : List Ed).length + es.length ≤ 1000000000 := by simp; omega
    have hl4 : es.length ≤ 1000000000000 := by omega
    replace hlit := hidI hlit
    replace hx := hidI hx
    replace hl4 := hidI hl4
    rw [← hn]
    replace hl3 := hidI hl3
    have hx' : Hid (ReadE w.heap.size (w.alloc (.cells #[] 68)) (.slice (some ad) n cap) es) := hidI (by rw [hn]; exact hx.out)
    clear hx
    replace hn := hidI hn
    replace hread := hidI hread
    clear hr hnil hzl
    have heq := fun W : World => Lib.run_eql_slice_nil (P := Try.prog) W 30 68 (some ad) n cap 0 0 Try.underlying30
    go_enter Try.func64, Try.ntmps64
    go_wp2_with (at_builtin; go_must (refine wpList_pushAllE rfl _ _ rfl w.heap.size _ _ [] es w.heap.size rfl rfl (by exact hlit.out) (by exact hx'.out) hl3.out (by simp) ?_))
    intro v1 w1 hown1 hb1'
    have hb1 := hb0.trans hb1'
    have hr : LwEdgesO w es (.returned v1) w1 := ⟨_, rfl, by simpa using hown1, hb1⟩
    replace hr := hidI hr
    clear hown1 hb1' hlit hx' hb0 hb1
    go_wp2
    go_ret
    exact hr.out
set_option maxHeartbeats 1600000 in
theorem gpCopyO (w : World) (r s : Int) (v : Value) (es : List Ed) (h : ReadE w.heap.size w v es) (hl : es.length ≤ 1000000000) :
    Calls Try.prog 47 #[.agg #[.int .i64 r, .int .i64 s, v]] w (LwGraphO w r s es) := by
  obtain ⟨a, cap, rfl, hnc⟩ := h.form
  obtain ⟨n, hn⟩ : ∃ n, n = es.length := ⟨_, rfl⟩
  rw [← hn] at h hnc
  obtain ⟨w1, hw1⟩ : ∃ w1, w1 = (w.alloc (.cells #[.int .i64 r, .int .i64 s, .slice a n cap] 32)).alloc (.cells #[.int .i64 0, .int .i64 0, .slice none 0 0] 32) := ⟨_, rfl⟩
  have hb1 : Below w.heap.size w w1 := by rw [hw1]; exact ((Below.refl _ _).alloc (Nat.le_refl _) _).alloc (by simp) _
  have hs1 : w1.heap.size = w.heap.size + 1 + 1 := by rw [hw1]; simp
  have hg := heap_box w (.cells #[.int .i64 r, .int .i64 s, .slice a n cap] 32) (.cells #[.int .i64 0, .int .i64 0, .slice none 0 0] 32)
  have hk := heap_alloc_new (w.alloc (.cells #[.int .i64 r, .int .i64 s, .slice a n cap] 32)) (.cells #[.int .i64 0, .int .i64 0, .slice none 0 0] 32)
  rw [← hw1] at hg hk
  rw [show (w.alloc (.cells #[.int .i64 r, .int .i64 s, .slice a n cap] 32)).heap.size = w.heap.size + 1 by simp] at hk
  have hrd1 := (h.below hb1).mono hb1.size
  rw [hn] at hrd1
  have hcl := gpCloneO w1 _ es hrd1 hl
  rw [← hn] at hcl ⊢
  replace hn := hidI hn
  replace h := hidI h
  replace hrd1 := hidI hrd1
  replace hs1 := hidI hs1
  replace hw1 := hidI hw1
  have g0 : w1.cell? ⟨w.heap.size, 0, none⟩ = some (.int .i64 r) := by simpa using cell_of_heap hg 0
  have g1 : w1.cell? ⟨w.heap.size, 1, none⟩ = some (.int .i64 s) := by simpa using cell_of_heap hg 1
  have g2 : w1.cell? ⟨w.heap.size, 2, none⟩ = some (.slice a n cap) := by simpa using cell_of_heap hg 2
  replace hg := hidI hg
  replace hk := hidI hk
  go_enter Try.func47, Try.ntmps47
  go_wp2_with fail
  rw [← hw1.out]
  refine hcl.mono ?_
  intro e w2 h2
  obtain ⟨v2, rfl, hrow, hb2⟩ := h2
  obtain ⟨b, cap2, hv2⟩ : ∃ b c, v2 = Value.slice b es.length c := by
    obtain ⟨_, ⟨h1, h2⟩ | ⟨g, cap', cur, h1, _⟩⟩ := hrow
    · exact ⟨none, 0, by rw [h1, h2]⟩
    · exact ⟨_, _, h1⟩
  subst hv2
  rw [← hn.out]
  rw [← hn.out] at hrow
  have hk1 : w2.heap[w.heap.size]? = some (.cells #[.int .i64 r, .int .i64 s, .slice a n cap] 32 (0, 0)) := by rw [hb2.block _ (by have := hs1.out; omega)]; exact hg.out
  have hk2 : w2.heap[w.heap.size + 1]? = some (.cells #[.int .i64 0, .int .i64 0, .slice none 0 0] 32 (0, 0)) := by rw [hb2.block _ (by have := hs1.out; omega)]; exact hk.out
  obtain ⟨w3, hw3⟩ : ∃ w3, w3 = w2.setCell ⟨w.heap.size, 2, none⟩ (.slice b n cap2) := ⟨_, rfl⟩
  have q0 := cell_of_heap hk1 0
  have q1 := cell_of_heap hk1 1
  have q2 := cell_of_heap hk1 2
  have k0 := cell_of_heap hk2 0
  have k1 := cell_of_heap hk2 1
  have k2 := cell_of_heap hk2 2
  have f1 := fun j => frozen_of_row w2 w.heap.size j _ _ hk1
  have f2 := fun j => frozen_of_row w2 (w.heap.size + 1) j _ _ hk2
  simp at q0 q1 q2 k0 k1 k2
  have hbz := hb1.trans (hb2.mono hb1.size)
  have hfin : LwGraphO w r s es (.returned (.agg #[.int .i64 r, .int .i64 s, .slice b n cap2])) ((((w2.setCell ⟨w.heap.size, 2, none⟩ (.slice b n cap2)).setCell ⟨w.heap.size + 1, 0, none⟩ (.int .i64 r)).setCell ⟨w.heap.size + 1, 1, none⟩ (.int .i64 s)).setCell ⟨w.heap.size + 1, 2, none⟩ (.slice b n cap2)) := by
    have hs := hs1.out
    refine ⟨b, cap2, by rw [hn.out], ?_, below_set3 (hbz.setCell (p := ⟨w.heap.size, 2, none⟩) (Nat.le_refl _) _) (by omega)⟩
    have hlt := World.ownsRow.lt hrow
    rw [← hn.out]
    exact OwnsS.mono (OwnsS.other hrow (fun k hk => by
      have := (hlt k hk).1
      rw [heap_set3 (by omega), Below.heap_setCell _ _ _ _ (show k ≠ w.heap.size by omega)])) (by omega)
  have hky : (w2.setCell ⟨w.heap.size, 2, none⟩ (.slice b n cap2)).heap[w.heap.size + 1]? = some (.cells #[.int .i64 0, .int .i64 0, .slice none 0 0] 32 (0, 0)) := by
    rw [Below.heap_setCell _ _ _ _ (show w.heap.size + 1 ≠ w.heap.size by omega)]; exact hk2
  replace hfin := hidI hfin
  replace hky := hidI hky
  replace hk1 := hidI hk1
  replace hk2 := hidI hk2
  replace hw3 := hidI hw3
  replace hrow := hidI hrow
  clear g0 g1 g2
  go_wp2
  (try simp only [Exit.inBlock, Exit.then])
  refine ret_cell rfl (g := w.heap.size + 1) rfl (set3 hky.out _ _ _) Try.underlying32 sizeGraph ?_
  exact hfin.out
/-- The edge that a letter passes from u to v. -/
def eB (u l v : Int) : Ed := if l < 0 then (v, -l, u) else (u, l, v)
/-- out = append(out, e), inside a region: e lies in a block of its own. -/
theorem step_pushE_at {w0 : World} {o : Oper} {a : Act} {K : Act → World → Prop} {Q : Exit → Act → World → Prop} (s x : Operand)
    (ho : o.op = .call { callee := .builtin .append, args := #[s, x], argTypes := #[30, 30] }) (base : Nat) (v : Value) (es : List Ed) (e : Ed) (blk : Nat)
    (hs : a.eval s = v) (hx : a.eval x = .slice (some ⟨blk, 0, none⟩) 1 1) (hown : OwnsE w0 base v es) (hc : w0.heap[blk]? = some (.cells #[.int .i64 e.1, .int .i64 e.2.1, .int .i64 e.2.2] 68 (0, 0))) (hl : es.length ≤ 1000000000) (hbase : base ≤ w0.heap.size)
    (h : ∀ v' w', OwnsE w' base v' (es ++ [e]) → w0.grownBy w' v.ownBlock → (v'.ownBlock = v.ownBlock ∨ v'.ownBlock = some w0.heap.size) → K (a.put o.dst v') w') :
    Oper.wp Try.prog o a w0 K Q := by
  obtain ⟨i0, hi, hz0, hz1, hz2⟩ := info_parts infoEdge
  obtain ⟨v', w', hrun, h2, h3, h4, h5⟩ := run_append_own_at (P := Try.prog) w0 base 30 o.type 68 i0 _ 3 24 Try.underlying30 hi hz0 hz1 hz2 rfl (by decide) v es.length ((flatE es).map iv) hown ⟨blk, 0, none⟩ 1 1 [iv e.1, iv e.2.1, iv e.2.2] rfl (by
      intro j u hj
      rw [addr_plus, Nat.zero_add]
      have c := cell_of_heap hc j
      match j, hj with
      | 0, hj => simp at hj; subst hj; simpa [iv] using c
      | 1, hj => simp at hj; subst hj; simpa [iv] using c
      | 2, hj => simp at hj; subst hj; simpa [iv] using c) (by
      intro u hu
      simp at hu
      rcases hu with rfl | rfl | rfl <;> rfl) (by unfold maxLen; omega) (by omega) hbase
  unfold Oper.wp execOp
  simp only [ho, resolve, invoke, builtin, Sem.run_bind, Sem.run_pure, Result.andThen_ok, List.map_toArray, List.map_cons, List.map_nil, hs, hx, hrun]
  exact h v' w' (by unfold OwnsE OwnsS; rw [flatE_append, List.length_append, List.map_append]; simpa [flatE] using h2) h3 h5
/-- What AddPath's closure and its caller share: the graph's box G, the vertex's box A, the row of edges. -/
structure PathSt (w : World) (G A base : Nat) (r s y : Int) (v : Value) (es : List Ed) : Prop where
  box : w.heap[G]? = some (.cells #[.int .i64 r, .int .i64 s, v] 32 (0, 0))
  at_ : w.heap[A]? = some (.cells #[.int .i64 y] 3 (0, 0))
  row : OwnsE w base v es
  vG : v.ownBlock ≠ some G
  vA : v.ownBlock ≠ some A
  GA : G < base ∧ base ≤ A ∧ A < w.heap.size
/-- What lies below the row's base stays, but for the graph's box. -/
def KeptBut (B G : Nat) (w w' : World) : Prop := w'.os = w.os ∧ w'.tape = w.tape ∧ w'.output = w.output ∧ w.heap.size ≤ w'.heap.size ∧ ∀ k, k < B → k ≠ G → w'.heap[k]? = w.heap[k]?
theorem KeptBut.refl (B G : Nat) (w : World) : KeptBut B G w w := ⟨rfl, rfl, rfl, Nat.le_refl _, fun _ _ _ => rfl⟩
theorem KeptBut.trans {B G : Nat} {a b c : World} (h : KeptBut B G a b) (k : KeptBut B G b c) : KeptBut B G a c :=
  ⟨k.1.trans h.1, k.2.1.trans h.2.1, k.2.2.1.trans h.2.2.1, Nat.le_trans h.2.2.2.1 k.2.2.2.1, fun i hi hne => (k.2.2.2.2 i hi hne).trans (h.2.2.2.2 i hi hne)⟩
theorem KeptBut.of_below {B G : Nat} {a b : World} (h : Below B a b) : KeptBut B G a b := ⟨h.os, h.tape, h.output, h.size, fun k hk _ => h.block k hk⟩
theorem KeptBut.below {B G : Nat} {a b : World} (h : KeptBut B G a b) (hG : G ≤ B) : Below G a b := ⟨h.1, h.2.1, h.2.2.1, h.2.2.2.1, fun k hk => h.2.2.2.2 k (by omega) (by omega)⟩
def LeadRet (w : World) (G A base : Nat) (r s y : Int) (es : List Ed) (e : Ending) (w' : World) : Prop :=
  e = .returned (.tuple #[]) ∧ (∃ v', PathSt w' G A base r s y v' es) ∧ KeptBut base G w w'
/-- What the closure leaves behind its two stores. -/
theorem lead_fin {w wd w3 w4 w5 : World} {G A base : Nat} {r s y nx : Int} {v va5 : Value} {es' : List Ed} (hGA : G < base ∧ base ≤ A ∧ A < w.heap.size) (hvG : v.ownBlock ≠ some G) (hvA : v.ownBlock ≠ some A) (hbw : Below w.heap.size w wd) (hb3 : Below wd.heap.size wd w3) (hb4 : Below w3.heap.size w3 w4) (hg5 : w4.grownBy w5 v.ownBlock) (hown5 : OwnsE w5 base va5 es')
    (hat5 : va5.ownBlock = v.ownBlock ∨ va5.ownBlock = some w4.heap.size) {v0 : Value} (hG5 : w5.heap[G]? = some (.cells #[.int .i64 r, .int .i64 s, v0] 32 (0, 0))) (hA5 : w5.heap[A]? = some (.cells #[.int .i64 y] 3 (0, 0))) (h4 : w.heap.size ≤ w4.heap.size) (hbv : ∀ k, v.ownBlock = some k → base ≤ k) :
    LeadRet w G A base r s nx es' (.returned (.tuple #[])) ((w5.setCell ⟨G, 2, none⟩ va5).setCell ⟨A, 0, none⟩ (.int .i64 nx)) := by
  have hs5 := hg5.size
  have hne : A ≠ G := by omega
  have hv5G : va5.ownBlock ≠ some G := by
    rcases hat5 with e | e
    · rw [e]; exact hvG
    · rw [e]; simp; omega
  have hv5A : va5.ownBlock ≠ some A := by
    rcases hat5 with e | e
    · rw [e]; exact hvA
    · rw [e]; simp; omega
  refine ⟨rfl, ⟨va5, ⟨?_, ?_, ?_, hv5G, hv5A, ⟨hGA.1, hGA.2.1, by simp [World.setCell]; omega⟩⟩⟩, ?_⟩
  · rw [Below.heap_setCell _ _ _ _ (show G ≠ A by omega)]
    have := heap_setCell_same w5 G 2 _ _ va5 hG5
    simpa using this
  · have h1 : (w5.setCell ⟨G, 2, none⟩ va5).heap[A]? = some (.cells #[.int .i64 y] 3 (0, 0)) := by rw [Below.heap_setCell _ _ _ _ hne]; exact hA5
    have := heap_setCell_same _ A 0 _ _ (.int .i64 nx) h1
    simpa using this
  · exact OwnsS.other hown5 (fun k hk => by
      rw [Below.heap_setCell _ _ _ _ (show k ≠ A by rintro rfl; exact hv5A hk), Below.heap_setCell _ _ _ _ (show k ≠ G by rintro rfl; exact hv5G hk)])
  · have hb := hbw.trans (hb3.mono hbw.size)
    have hb' := hb.trans (hb4.mono hb.size)
    refine ⟨?_, ?_, ?_, ?_, fun k hk hkG => ?_⟩
    · exact hg5.os.trans hb'.os
    · exact hg5.tape.trans hb'.tape
    · exact hg5.output.trans hb'.output
    · have := hb'.size; simp [World.setCell]; omega
    · rw [Below.heap_setCell _ _ _ _ (show k ≠ A by omega), Below.heap_setCell _ _ _ _ hkG, hg5.block k (by omega) (fun e => by have := hbv k e.symm; omega), hb'.block k (by omega)]
end Go.Proofs.Ytdeofaimgldklaa
