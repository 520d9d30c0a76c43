/- Paths of new edges, the program: copies with the row's spare room in sight, edgeBetween, the closure of AddPath (tools/sf1.py). -/
import Derived.Test.YtmafaglgegimfaaGP4
import Derived.Test.YtmafaglgegimfaaLW3
import Derived.Maps.AppendAt
import Derived.Deep.Cut
namespace Go.Proofs.Ytmafaglgegimfaa
open Go.RowKit
set_option linter.unusedVariables false
set_option linter.unusedSimpArgs false

def LwEdgesO (w : World) (es : List Ed) (e : Ending) (w' : World) : Prop := ∃ v, e = .returned v ∧ OwnsE w' w.heap.size v es ∧ Below w.heap.size w w'
def LwGraphO (w : World) (r s : Int) (es : List Ed) (e : Ending) (w' : World) : Prop :=
  ∃ a cap, e = .returned (.agg #[.int .i64 r, .int .i64 s, .slice a es.length cap]) ∧ OwnsE w' w.heap.size (.slice a es.length cap) es ∧ Below w.heap.size w w'
theorem OwnsS.other {T : TypeId} {sz n base : Nat} {w w' : World} {v : Value} {zs : List Int} (h : OwnsS T sz w base v n zs) (hb : ∀ k, v.ownBlock = some k → w'.heap[k]? = w.heap[k]?) : OwnsS T sz w' base v n zs := by
  obtain ⟨h1, h2 | ⟨g, cap, cur, rfl, hg, hh, hr⟩⟩ := h
  · exact ⟨h1, .inl h2⟩
  · exact ⟨h1, .inr ⟨g, cap, cur, rfl, hg, (hb g rfl).trans hh, hr⟩⟩
set_option maxHeartbeats 800000 in
theorem gpCloneO (w : World) (v : Value) (es : List Ed) (h : ReadE w.heap.size w v es) (hl : es.length ≤ 1000000000) :
    Calls Try.prog 89 #[v] w (LwEdgesO w es) := by
  have hread := h
  obtain ⟨hzl, _, a, cap, rfl, ⟨hnil, _⟩, hr⟩ := h
  obtain ⟨n, hn⟩ : ∃ n, n = es.length := ⟨_, rfl⟩
  rcases a with _ | ad
  · have hz : es = [] := by
      rcases hr with h0 | ⟨b, off, ha, _⟩
      · exact List.eq_nil_of_length_eq_zero h0
      · cases ha
    have hc0 := hnil rfl
    subst hc0
    subst hz
    have hr : LwEdgesO w [] (.returned (.slice none 0 0)) w := ⟨_, rfl, OwnsS.nil _ _, Below.refl _ _⟩
    replace hr := hidI hr
    have heq := fun W : World => Lib.run_eql_slice_nil (P := Try.prog) W 28 77 none 0 0 0 0 Try.underlying28
    clear hread hn hnil
    go_enter Try.func89, Try.ntmps89
    go_wp2
    go_ret
    exact hr.out
  · have hlit : OwnsE (w.alloc (.cells #[] 77)) w.heap.size (.slice (some ⟨w.heap.size, 0, none⟩) 0 0) [] := OwnsE.litE w
    have hb0 := (Below.refl w.heap.size w).alloc (Nat.le_refl _) (.cells #[] 77)
    have hx := hread.below hb0
    have hl3 : ([] : List Ed).length + es.length ≤ 1000000000 := by simp; omega
    have hl4 : es.length ≤ 1000000000000 := by omega
    replace hlit := hidI hlit
    replace hx := hidI hx
    replace hl4 := hidI hl4
    rw [← hn]
    replace hl3 := hidI hl3
    have hx' : Hid (ReadE w.heap.size (w.alloc (.cells #[] 77)) (.slice (some ad) n cap) es) := hidI (by rw [hn]; exact hx.out)
    clear hx
    replace hn := hidI hn
    replace hread := hidI hread
    clear hr hnil hzl
    have heq := fun W : World => Lib.run_eql_slice_nil (P := Try.prog) W 28 77 (some ad) n cap 0 0 Try.underlying28
    go_enter Try.func89, Try.ntmps89
    go_wp2_with (at_builtin; go_must (refine wpList_pushAllE rfl _ _ rfl w.heap.size _ _ [] es w.heap.size rfl rfl (by exact hlit.out) (by exact hx'.out) hl3.out (by simp) ?_))
    intro v1 w1 hown1 hb1'
    have hb1 := hb0.trans hb1'
    have hr : LwEdgesO w es (.returned v1) w1 := ⟨_, rfl, by simpa using hown1, hb1⟩
    replace hr := hidI hr
    clear hown1 hb1' hlit hx' hb0 hb1
    go_wp2
    go_ret
    exact hr.out
set_option maxHeartbeats 1600000 in
theorem gpCopyO (w : World) (r s : Int) (v : Value) (es : List Ed) (h : ReadE w.heap.size w v es) (hl : es.length ≤ 1000000000) :
    Calls Try.prog 62 #[.agg #[.int .i64 r, .int .i64 s, v]] w (LwGraphO w r s es) := by
  obtain ⟨a, cap, rfl, hnc⟩ := h.form
  obtain ⟨n, hn⟩ : ∃ n, n = es.length := ⟨_, rfl⟩
  rw [← hn] at h hnc
  obtain ⟨w1, hw1⟩ : ∃ w1, w1 = (w.alloc (.cells #[.int .i64 r, .int .i64 s, .slice a n cap] 30)).alloc (.cells #[.int .i64 0, .int .i64 0, .slice none 0 0] 30) := ⟨_, rfl⟩
  have hb1 : Below w.heap.size w w1 := by rw [hw1]; exact ((Below.refl _ _).alloc (Nat.le_refl _) _).alloc (by simp) _
  have hs1 : w1.heap.size = w.heap.size + 1 + 1 := by rw [hw1]; simp
  have hg := heap_box w (.cells #[.int .i64 r, .int .i64 s, .slice a n cap] 30) (.cells #[.int .i64 0, .int .i64 0, .slice none 0 0] 30)
  have hk := heap_alloc_new (w.alloc (.cells #[.int .i64 r, .int .i64 s, .slice a n cap] 30)) (.cells #[.int .i64 0, .int .i64 0, .slice none 0 0] 30)
  rw [← hw1] at hg hk
  rw [show (w.alloc (.cells #[.int .i64 r, .int .i64 s, .slice a n cap] 30)).heap.size = w.heap.size + 1 by simp] at hk
  have hrd1 := (h.below hb1).mono hb1.size
  rw [hn] at hrd1
  have hcl := gpCloneO w1 _ es hrd1 hl
  rw [← hn] at hcl ⊢
  replace hn := hidI hn
  replace h := hidI h
  replace hrd1 := hidI hrd1
  replace hs1 := hidI hs1
  replace hw1 := hidI hw1
  have g0 : w1.cell? ⟨w.heap.size, 0, none⟩ = some (.int .i64 r) := by simpa using cell_of_heap hg 0
  have g1 : w1.cell? ⟨w.heap.size, 1, none⟩ = some (.int .i64 s) := by simpa using cell_of_heap hg 1
  have g2 : w1.cell? ⟨w.heap.size, 2, none⟩ = some (.slice a n cap) := by simpa using cell_of_heap hg 2
  replace hg := hidI hg
  replace hk := hidI hk
  go_enter Try.func62, Try.ntmps62
  go_wp2_with fail
  rw [← hw1.out]
  refine hcl.mono ?_
  intro e w2 h2
  obtain ⟨v2, rfl, hrow, hb2⟩ := h2
  obtain ⟨b, cap2, hv2⟩ : ∃ b c, v2 = Value.slice b es.length c := by
    obtain ⟨_, ⟨h1, h2⟩ | ⟨g, cap', cur, h1, _⟩⟩ := hrow
    · exact ⟨none, 0, by rw [h1, h2]⟩
    · exact ⟨_, _, h1⟩
  subst hv2
  rw [← hn.out]
  rw [← hn.out] at hrow
  have hk1 : w2.heap[w.heap.size]? = some (.cells #[.int .i64 r, .int .i64 s, .slice a n cap] 30 (0, 0)) := by rw [hb2.block _ (by have := hs1.out; omega)]; exact hg.out
  have hk2 : w2.heap[w.heap.size + 1]? = some (.cells #[.int .i64 0, .int .i64 0, .slice none 0 0] 30 (0, 0)) := by rw [hb2.block _ (by have := hs1.out; omega)]; exact hk.out
  obtain ⟨w3, hw3⟩ : ∃ w3, w3 = w2.setCell ⟨w.heap.size, 2, none⟩ (.slice b n cap2) := ⟨_, rfl⟩
  have q0 := cell_of_heap hk1 0
  have q1 := cell_of_heap hk1 1
  have q2 := cell_of_heap hk1 2
  have k0 := cell_of_heap hk2 0
  have k1 := cell_of_heap hk2 1
  have k2 := cell_of_heap hk2 2
  have f1 := fun j => frozen_of_row w2 w.heap.size j _ _ hk1
  have f2 := fun j => frozen_of_row w2 (w.heap.size + 1) j _ _ hk2
  simp at q0 q1 q2 k0 k1 k2
  have hbz := hb1.trans (hb2.mono hb1.size)
  have hfin : LwGraphO w r s es (.returned (.agg #[.int .i64 r, .int .i64 s, .slice b n cap2])) ((((w2.setCell ⟨w.heap.size, 2, none⟩ (.slice b n cap2)).setCell ⟨w.heap.size + 1, 0, none⟩ (.int .i64 r)).setCell ⟨w.heap.size + 1, 1, none⟩ (.int .i64 s)).setCell ⟨w.heap.size + 1, 2, none⟩ (.slice b n cap2)) := by
    have hs := hs1.out
    refine ⟨b, cap2, by rw [hn.out], ?_, below_set3 (hbz.setCell (p := ⟨w.heap.size, 2, none⟩) (Nat.le_refl _) _) (by omega)⟩
    have hlt := World.ownsRow.lt hrow
    rw [← hn.out]
    exact OwnsS.mono (OwnsS.other hrow (fun k hk => by
      have := (hlt k hk).1
      rw [heap_set3 (by omega), Below.heap_setCell _ _ _ _ (show k ≠ w.heap.size by omega)])) (by omega)
  have hky : (w2.setCell ⟨w.heap.size, 2, none⟩ (.slice b n cap2)).heap[w.heap.size + 1]? = some (.cells #[.int .i64 0, .int .i64 0, .slice none 0 0] 30 (0, 0)) := by
    rw [Below.heap_setCell _ _ _ _ (show w.heap.size + 1 ≠ w.heap.size by omega)]; exact hk2
  replace hfin := hidI hfin
  replace hky := hidI hky
  replace hk1 := hidI hk1
  replace hk2 := hidI hk2
  replace hw3 := hidI hw3
  replace hrow := hidI hrow
  clear g0 g1 g2
  go_wp2
  (try simp only [Exit.inBlock, Exit.then])
  refine ret_cell rfl (g := w.heap.size + 1) rfl (set3 hky.out _ _ _) Try.underlying30 sizeGraph ?_
  exact hfin.out
/-- The edge that a letter passes from u to v. -/
def eB (u l v : Int) : Ed := if l < 0 then (v, -l, u) else (u, l, v)
set_option maxHeartbeats 800000 in
theorem between_edge (w : World) (u l v : Int) (hl : -9223372036854775807 ≤ l) (hl2 : l ≤ 9223372036854775807) :
    Calls Try.prog 65 #[.int .i64 u, .int .i64 l, .int .i64 v] w fun x w' => x = .returned (.agg #[.int .i64 (eB u l v).1, .int .i64 (eB u l v).2.1, .int .i64 (eB u l v).2.2]) ∧ Below w.heap.size w w' := by
  obtain ⟨w1, hw1⟩ : ∃ z, z = w.alloc (.cells #[.int .i64 0, .int .i64 0, .int .i64 0] 77) := ⟨_, rfl⟩
  have hb1 : Below w.heap.size w w1 := by rw [hw1]; exact (Below.refl _ _).alloc (Nat.le_refl _) _
  have hk1 := heap_alloc_new w (.cells #[.int .i64 0, .int .i64 0, .int .i64 0] 77)
  rw [← hw1] at hk1
  have c0 := cell_of_heap hk1 0
  have c1 := cell_of_heap hk1 1
  have c2 := cell_of_heap hk1 2
  have f1 := fun j => frozen_of_row w1 w.heap.size j _ _ hk1
  simp at c0 c1 c2
  replace hw1 := hidI hw1
  replace hk1 := hidI hk1
  by_cases h : l < 0
  · have he : eB u l v = (v, -l, u) := if_pos h
    have hq : wrap64 (-l) = -l := by unfold wrap64; omega
    rw [he]
    replace he := hidI he
    go_enter Try.func65, Try.ntmps65
    go_upto_region 1 with fail
    rw [← hw1.out]
    go_wp2
    (try simp only [Exit.inBlock, Exit.then])
    refine ret_cell rfl (g := w.heap.size) rfl (set3 hk1.out _ _ _) Try.underlying77 sizeEdge ?_
    refine ⟨?_, below_set3 hb1 (Nat.le_refl _)⟩
    first | rfl | (try simp only [hq]; try rfl)
  · have he : eB u l v = (u, l, v) := if_neg h
    rw [he]
    replace he := hidI he
    go_enter Try.func65, Try.ntmps65
    go_upto_region 1 with fail
    rw [← hw1.out]
    go_wp2
    (try simp only [Exit.inBlock, Exit.then])
    refine ret_cell rfl (g := w.heap.size) rfl (set3 hk1.out _ _ _) Try.underlying77 sizeEdge ?_
    exact ⟨rfl, below_set3 hb1 (Nat.le_refl _)⟩
/-- out = append(out, e), inside a region: e lies in a block of its own. -/
theorem step_pushE_at {w0 : World} {o : Oper} {a : Act} {K : Act → World → Prop} {Q : Exit → Act → World → Prop} (s x : Operand)
    (ho : o.op = .call { callee := .builtin .append, args := #[s, x], argTypes := #[28, 28] }) (base : Nat) (v : Value) (es : List Ed) (e : Ed) (blk : Nat)
    (hs : a.eval s = v) (hx : a.eval x = .slice (some ⟨blk, 0, none⟩) 1 1) (hown : OwnsE w0 base v es) (hc : w0.heap[blk]? = some (.cells #[.int .i64 e.1, .int .i64 e.2.1, .int .i64 e.2.2] 77 (0, 0))) (hl : es.length ≤ 1000000000) (hbase : base ≤ w0.heap.size)
    (h : ∀ v' w', OwnsE w' base v' (es ++ [e]) → w0.grownBy w' v.ownBlock → (v'.ownBlock = v.ownBlock ∨ v'.ownBlock = some w0.heap.size) → K (a.put o.dst v') w') :
    Oper.wp Try.prog o a w0 K Q := by
  obtain ⟨i0, hi, hz0, hz1, hz2⟩ := info_parts infoEdge
  obtain ⟨v', w', hrun, h2, h3, h4, h5⟩ := run_append_own_at (P := Try.prog) w0 base 28 o.type 77 i0 _ 3 24 Try.underlying28 hi hz0 hz1 hz2 rfl (by decide) v es.length ((flatE es).map iv) hown ⟨blk, 0, none⟩ 1 1 [iv e.1, iv e.2.1, iv e.2.2] rfl (by
      intro j u hj
      rw [addr_plus, Nat.zero_add]
      have c := cell_of_heap hc j
      match j, hj with
      | 0, hj => simp at hj; subst hj; simpa [iv] using c
      | 1, hj => simp at hj; subst hj; simpa [iv] using c
      | 2, hj => simp at hj; subst hj; simpa [iv] using c) (by
      intro u hu
      simp at hu
      rcases hu with rfl | rfl | rfl <;> rfl) (by unfold maxLen; omega) (by omega) hbase
  unfold Oper.wp execOp
  simp only [ho, resolve, invoke, builtin, Sem.run_bind, Sem.run_pure, Result.andThen_ok, List.map_toArray, List.map_cons, List.map_nil, hs, hx, hrun]
  exact h v' w' (by unfold OwnsE OwnsS; rw [flatE_append, List.length_append, List.map_append]; simpa [flatE] using h2) h3 h5
/-- What AddPath's closure and its caller share: the graph's box G, the vertex's box A, the row of edges. -/
structure PathSt (w : World) (G A base : Nat) (r s y : Int) (v : Value) (es : List Ed) : Prop where
  box : w.heap[G]? = some (.cells #[.int .i64 r, .int .i64 s, v] 30 (0, 0))
  at_ : w.heap[A]? = some (.cells #[.int .i64 y] 3 (0, 0))
  row : OwnsE w base v es
  vG : v.ownBlock ≠ some G
  vA : v.ownBlock ≠ some A
  GA : G < base ∧ base ≤ A ∧ A < w.heap.size
/-- What lies below the row's base stays, but for the graph's box. -/
def KeptBut (B G : Nat) (w w' : World) : Prop := w'.os = w.os ∧ w'.tape = w.tape ∧ w'.output = w.output ∧ w.heap.size ≤ w'.heap.size ∧ ∀ k, k < B → k ≠ G → w'.heap[k]? = w.heap[k]?
theorem KeptBut.refl (B G : Nat) (w : World) : KeptBut B G w w := ⟨rfl, rfl, rfl, Nat.le_refl _, fun _ _ _ => rfl⟩
theorem KeptBut.trans {B G : Nat} {a b c : World} (h : KeptBut B G a b) (k : KeptBut B G b c) : KeptBut B G a c :=
  ⟨k.1.trans h.1, k.2.1.trans h.2.1, k.2.2.1.trans h.2.2.1, Nat.le_trans h.2.2.2.1 k.2.2.2.1, fun i hi hne => (k.2.2.2.2 i hi hne).trans (h.2.2.2.2 i hi hne)⟩
theorem KeptBut.of_below {B G : Nat} {a b : World} (h : Below B a b) : KeptBut B G a b := ⟨h.os, h.tape, h.output, h.size, fun k hk _ => h.block k hk⟩
theorem KeptBut.below {B G : Nat} {a b : World} (h : KeptBut B G a b) (hG : G ≤ B) : Below G a b := ⟨h.1, h.2.1, h.2.2.1, h.2.2.2.1, fun k hk => h.2.2.2.2 k (by omega) (by omega)⟩
def LeadRet (w : World) (G A base : Nat) (r s y : Int) (es : List Ed) (e : Ending) (w' : World) : Prop :=
  e = .returned (.tuple #[]) ∧ (∃ v', PathSt w' G A base r s y v' es) ∧ KeptBut base G w w'
/-- What the closure leaves behind its two stores. -/
theorem lead_fin {w wd w3 w4 w5 : World} {G A base : Nat} {r s y nx : Int} {v va5 : Value} {es' : List Ed} (hGA : G < base ∧ base ≤ A ∧ A < w.heap.size) (hvG : v.ownBlock ≠ some G) (hvA : v.ownBlock ≠ some A) (hbw : Below w.heap.size w wd) (hb3 : Below wd.heap.size wd w3) (hb4 : Below w3.heap.size w3 w4) (hg5 : w4.grownBy w5 v.ownBlock) (hown5 : OwnsE w5 base va5 es')
    (hat5 : va5.ownBlock = v.ownBlock ∨ va5.ownBlock = some w4.heap.size) {v0 : Value} (hG5 : w5.heap[G]? = some (.cells #[.int .i64 r, .int .i64 s, v0] 30 (0, 0))) (hA5 : w5.heap[A]? = some (.cells #[.int .i64 y] 3 (0, 0))) (h4 : w.heap.size ≤ w4.heap.size) (hbv : ∀ k, v.ownBlock = some k → base ≤ k) :
    LeadRet w G A base r s nx es' (.returned (.tuple #[])) ((w5.setCell ⟨G, 2, none⟩ va5).setCell ⟨A, 0, none⟩ (.int .i64 nx)) := by
  have hs5 := hg5.size
  have hne : A ≠ G := by omega
  have hv5G : va5.ownBlock ≠ some G := by
    rcases hat5 with e | e
    · rw [e]; exact hvG
    · rw [e]; simp; omega
  have hv5A : va5.ownBlock ≠ some A := by
    rcases hat5 with e | e
    · rw [e]; exact hvA
    · rw [e]; simp; omega
  refine ⟨rfl, ⟨va5, ⟨?_, ?_, ?_, hv5G, hv5A, ⟨hGA.1, hGA.2.1, by simp [World.setCell]; omega⟩⟩⟩, ?_⟩
  · rw [Below.heap_setCell _ _ _ _ (show G ≠ A by omega)]
    have := heap_setCell_same w5 G 2 _ _ va5 hG5
    simpa using this
  · have h1 : (w5.setCell ⟨G, 2, none⟩ va5).heap[A]? = some (.cells #[.int .i64 y] 3 (0, 0)) := by rw [Below.heap_setCell _ _ _ _ hne]; exact hA5
    have := heap_setCell_same _ A 0 _ _ (.int .i64 nx) h1
    simpa using this
  · exact OwnsS.other hown5 (fun k hk => by
      rw [Below.heap_setCell _ _ _ _ (show k ≠ A by rintro rfl; exact hv5A hk), Below.heap_setCell _ _ _ _ (show k ≠ G by rintro rfl; exact hv5G hk)])
  · have hb := hbw.trans (hb3.mono hbw.size)
    have hb' := hb.trans (hb4.mono hb.size)
    refine ⟨?_, ?_, ?_, ?_, fun k hk hkG => ?_⟩
    · exact hg5.os.trans hb'.os
    · exact hg5.tape.trans hb'.tape
    · exact hg5.output.trans hb'.output
    · have := hb'.size; simp [World.setCell]; omega
    · rw [Below.heap_setCell _ _ _ _ (show k ≠ A by omega), Below.heap_setCell _ _ _ _ hkG, hg5.block k (by omega) (fun e => by have := hbv k e.symm; omega), hb'.block k (by omega)]
set_option maxRecDepth 100000 in
set_option maxHeartbeats 6400000 in
theorem leadTo_any (w : World) (G A base : Nat) (r s y nx l : Int) (v : Value) (es : List Ed) (h : PathSt w G A base r s y v es) (hl : es.length ≤ 100000) (hl1 : -9223372036854775807 ≤ l) (hl2 : l ≤ 9223372036854775807) :
    Calls Try.prog 64 #[.int .i64 nx, .int .i64 l, .pointer (some ⟨G, 0, none⟩), .pointer (some ⟨A, 0, none⟩)] w (LeadRet w G A base r s nx (es ++ [eB y l nx])) := by
  obtain ⟨hG, hA, hrow, hvG, hvA, hGA⟩ := h
  obtain ⟨va, vn, vc, rfl⟩ := OwnsS.form3 hrow
  have hGA' := hGA
  obtain ⟨hGb, hbA, hAs⟩ := hGA'
  obtain ⟨wd, hwd⟩ : ∃ z, z = w.drew := ⟨_, rfl⟩
  have hbd : Below w.heap.size w wd := by rw [hwd]; exact below_dn (Below.refl _ _) 1
  have hsd : wd.heap.size = w.heap.size := by rw [hwd]; rfl
  have hGd : wd.heap[G]? = some (.cells #[.int .i64 r, .int .i64 s, .slice va vn vc] 30 (0, 0)) := by rw [hwd]; exact hG
  have hAd : wd.heap[A]? = some (.cells #[.int .i64 y] 3 (0, 0)) := by rw [hwd]; exact hA
  have hownd : OwnsE wd base (.slice va vn vc) es := by rw [hwd]; exact hrow
  have hbv : ∀ k, (Value.slice va vn vc).ownBlock = some k → base ≤ k := fun k hk => (World.ownsRow.lt hrow k hk).1
  have cG := cell_of_heap hGd 2
  have cA := cell_of_heap hAd 0
  simp at cG cA
  obtain ⟨ef, el, et, hee⟩ : ∃ f l' t, eB y l nx = (f, l', t) := ⟨_, _, _, rfl⟩
  have hcall := between_edge wd y l nx hl1 hl2
  rw [hee] at hcall
  have hbw := hidI hbd
  replace hee := hidI hee
  replace hwd := hidI hwd
  replace hGd := hidI hGd
  replace hAd := hidI hAd
  replace hownd := hidI hownd
  replace hG := hidI hG
  replace hA := hidI hA
  replace hrow := hidI hrow
  replace hvG := hidI hvG
  replace hvA := hidI hvA
  clear hbd
  go_enter Try.func64, Try.ntmps64
  go_wp2
  refine hideQ (fun _ _ d _ _ h => by cases d <;> exact h) (fun Q' hnorm hpan => ?_)
  refine wp_region_held_drew (S := fun z => z.cell? ⟨A, 0, none⟩ = some (.int .i64 y)) (by kernel_rfl) ?_ (fun hHeld => ?_)
  · try dsimp only
    rw [← hwd.out]
    exact cA
  rw [← hwd.out] at hHeld ⊢
  refine take_at 0 6 (v := ?_) rfl (by kernel_rfl) (by kernel_rfl) (by kernel_rfl) (by kernel_rfl) hpan (Or.inl ⟨by rfl, ?_⟩) (by assumption) ?_
  rotate_left
  · intro w hSw; (try dsimp only at hSw); go_simp; with_reducible rfl
  simp only [Act.put, List.setIfInBounds_toArray, List.set_cons_zero, List.set_cons_succ]
  refine take_at 2 8 (v := ?_) rfl (by kernel_rfl) (by kernel_rfl) (by kernel_rfl) (by kernel_rfl) hpan (Or.inl ⟨by rfl, ?_⟩) (by assumption) ?_
  rotate_left
  · intro w hSw; (try dsimp only at hSw); go_simp; with_reducible rfl
  simp only [Act.put, List.setIfInBounds_toArray, List.set_cons_zero, List.set_cons_succ]
  refine take_at 3 9 (v := ?_) rfl (by kernel_rfl) (by kernel_rfl) (by kernel_rfl) (by kernel_rfl) hpan (Or.inl ⟨by rfl, ?_⟩) (by assumption) ?_
  rotate_left
  · intro w hSw; (try dsimp only at hSw); go_simp; with_reducible rfl
  simp only [Act.put, List.setIfInBounds_toArray, List.set_cons_zero, List.set_cons_succ]
  refine take_at 4 10 (v := ?_) rfl (by kernel_rfl) (by kernel_rfl) (by kernel_rfl) (by kernel_rfl) hpan (Or.inl ⟨by rfl, ?_⟩) (by assumption) ?_
  rotate_left
  · intro w hSw; (try dsimp only at hSw); go_simp; with_reducible rfl
  simp only [Act.put, List.setIfInBounds_toArray, List.set_cons_zero, List.set_cons_succ]
  refine wpAnyH_ready (rs := [1, 5]) (by kernel_rfl) (by simp) ?_
  refine AllReadyH.cons rfl (fun K hK => ?_) ?_
  ·
    rw [if_pos (by first | rfl | kernel_rfl)]
    go_simp
    refine hK.out _ _ ?_ (fun hHeld => ?_)
    · try dsimp only
      first | assumption | exact cA
    clear hK
    try simp only [Act.put, List.setIfInBounds_toArray, List.set_cons_zero, List.set_cons_succ]
    refine wpAnyH_ready (rs := [5]) (by kernel_rfl) (by simp) ?_
    refine AllReadyH.cons rfl (fun K hK => ?_) AllReadyH.nil
    rw [if_pos (by first | rfl | kernel_rfl)]
    go_simp
    go_at_call 65
    (with_reducible refine hcall.mono ?_)
    rintro e w3 ⟨rfl, hb3⟩
    replace cG := below_cell cG hb3 (by omega)
    replace cA := below_cell cA hb3 (by omega)
    have hs3 := hb3.size
    have hb3h := hidI hb3
    clear hb3
    refine hK.out _ _ ?_ (fun hHeld => ?_)
    · try dsimp only
      first | assumption | exact cA
    clear hK
    try simp only [Act.put, List.setIfInBounds_toArray, List.set_cons_zero, List.set_cons_succ]
    refine wpAnyH_ready (rs := [6]) (by kernel_rfl) (by simp) ?_
    refine AllReadyH.cons rfl (fun K hK => ?_) AllReadyH.nil
    rw [if_pos (by first | rfl | kernel_rfl)]
    go_simp
    obtain ⟨w4, hw4⟩ : ∃ z, z = w3.alloc (.cells #[.int .i64 ef, .int .i64 el, .int .i64 et] 77) := ⟨_, rfl⟩
    have hb4 : Below w3.heap.size w3 w4 := by rw [hw4]; exact (Below.refl _ _).alloc (Nat.le_refl _) _
    have hh4 := heap_alloc_new w3 (.cells #[.int .i64 ef, .int .i64 el, .int .i64 et] 77)
    rw [← hw4] at hh4
    have hs4 : w4.heap.size = w3.heap.size + 1 := by rw [hw4]; simp
    rw [← hw4]
    replace hw4 := hidI hw4
    replace cG := below_cell cG hb4 (by omega)
    replace cA := below_cell cA hb4 (by omega)
    replace hh4 := hidI hh4
    have hb4h := hidI hb4
    clear hb4
    refine hK.out _ _ ?_ (fun hHeld => ?_)
    · try dsimp only
      first | assumption | exact cA
    clear hK
    try simp only [Act.put, List.setIfInBounds_toArray, List.set_cons_zero, List.set_cons_succ]
    refine wpAnyH_ready (rs := [7]) (by kernel_rfl) (by simp) ?_
    refine AllReadyH.cons rfl (fun K hK => ?_) AllReadyH.nil
    rw [if_pos (by first | rfl | kernel_rfl)]
    have hown4 : OwnsE w4 base (.slice va vn vc) es := OwnsS.later (OwnsS.later hownd.out hb3h.out (Nat.le_refl _)) hb4h.out (Nat.le_refl _)
    refine step_pushE_at _ _ rfl base (.slice va vn vc) es (ef, el, et) w3.heap.size rfl rfl hown4 hh4.out (by omega) (by omega) ?_
    intro v5 w5 hown5 hg5 hat5
    obtain ⟨a5, m5, c5, rfl⟩ := OwnsS.form3 hown5
    have hG5 : w5.heap[G]? = some (.cells #[.int .i64 r, .int .i64 s, .slice va vn vc] 30 (0, 0)) := by rw [hg5.block G (by omega) (fun e => hvG.out e.symm), hb4h.out.block G (by omega), hb3h.out.block G (by omega)]; exact hGd.out
    have hA5 : w5.heap[A]? = some (.cells #[.int .i64 y] 3 (0, 0)) := by rw [hg5.block A (by omega) (fun e => hvA.out e.symm), hb4h.out.block A (by omega), hb3h.out.block A (by omega)]; exact hAd.out
    have hs5 := hg5.size
    have hfin := lead_fin (nx := nx) hGA hvG.out hvA.out hbw.out hb3h.out hb4h.out hg5 hown5 hat5 hG5 hA5 (by omega) hbv
    rw [← hee.out] at hfin
    have p2 := cell_of_heap hG5 2
    have k0 := cell_of_heap hA5 0
    simp at p2 k0
    have f5 := fun j => frozen_of_row w5 G j _ _ hG5
    have f6 := fun j => frozen_of_row (w5.setCell ⟨G, 2, none⟩ (.slice a5 m5 c5)) A j _ _ (by rw [Below.heap_setCell _ _ _ _ (show A ≠ G by omega)]; exact hA5)
    have k9 : (w5.setCell ⟨G, 2, none⟩ (.slice a5 m5 c5)).cell? ⟨A, 0, none⟩ = some (.int .i64 y) := by rw [cell_of_heap (show (w5.setCell ⟨G, 2, none⟩ (.slice a5 m5 c5)).heap[A]? = _ by rw [Below.heap_setCell _ _ _ _ (show A ≠ G by omega)]; exact hA5)]; rfl
    replace cA := k0
    clear cG
    replace hG5 := hidI hG5
    replace hA5 := hidI hA5
    replace hfin := hidI hfin
    replace hown5 := hidI hown5
    replace hg5 := hidI hg5
    replace hat5 := hidI hat5
    refine hK.out _ _ ?_ (fun hHeld => ?_)
    · try dsimp only
      first | assumption | exact cA
    clear hK
    try simp only [Act.put, List.setIfInBounds_toArray, List.set_cons_zero, List.set_cons_succ]
    refine take_at 8 14 (v := ?_) rfl (by kernel_rfl) (by kernel_rfl) (by kernel_rfl) (by kernel_rfl) hpan (Or.inl ⟨by rfl, ?_⟩) (by assumption) ?_
    rotate_left
    · intro w hSw; (try dsimp only at hSw); go_simp; with_reducible rfl
    simp only [Act.put, List.setIfInBounds_toArray, List.set_cons_zero, List.set_cons_succ]
    refine wpAnyH_ready (rs := [9]) (by kernel_rfl) (by simp) ?_
    refine AllReadyH.cons rfl (fun K hK => ?_) AllReadyH.nil
    rw [if_pos (by first | rfl | kernel_rfl)]
    go_simp
    replace cA := k9
    refine hK.out _ _ ?_ (fun hHeld => ?_)
    · try dsimp only
      first | assumption | exact cA
    clear hK
    try simp only [Act.put, List.setIfInBounds_toArray, List.set_cons_zero, List.set_cons_succ]
    refine wpAnyH_done (by kernel_rfl) ?_ _
    refine hnorm _ _ ?_
    clear hnorm hpan
    repeat clear hHeld
    try simp only [Exit.then]
    go_wp2
    try simp only [Exit.inBlock, Exit.then]
    go_end0
    exact hfin.out
  refine AllReadyH.cons rfl (fun K hK => ?_) AllReadyH.nil
  rw [if_pos (by first | rfl | kernel_rfl)]
  go_simp
  go_at_call 65
  (with_reducible refine hcall.mono ?_)
  rintro e w3 ⟨rfl, hb3⟩
  replace cG := below_cell cG hb3 (by omega)
  replace cA := below_cell cA hb3 (by omega)
  have hs3 := hb3.size
  have hb3h := hidI hb3
  clear hb3
  refine hK.out _ _ ?_ (fun hHeld => ?_)
  · try dsimp only
    first | assumption | exact cA
  clear hK
  try simp only [Act.put, List.setIfInBounds_toArray, List.set_cons_zero, List.set_cons_succ]
  refine wpAnyH_ready (rs := [1, 6]) (by kernel_rfl) (by simp) ?_
  refine AllReadyH.cons rfl (fun K hK => ?_) ?_
  ·
    rw [if_pos (by first | rfl | kernel_rfl)]
    go_simp
    refine hK.out _ _ ?_ (fun hHeld => ?_)
    · try dsimp only
      first | assumption | exact cA
    clear hK
    try simp only [Act.put, List.setIfInBounds_toArray, List.set_cons_zero, List.set_cons_succ]
    refine wpAnyH_ready (rs := [6]) (by kernel_rfl) (by simp) ?_
    refine AllReadyH.cons rfl (fun K hK => ?_) AllReadyH.nil
    rw [if_pos (by first | rfl | kernel_rfl)]
    go_simp
    obtain ⟨w4, hw4⟩ : ∃ z, z = w3.alloc (.cells #[.int .i64 ef, .int .i64 el, .int .i64 et] 77) := ⟨_, rfl⟩
    have hb4 : Below w3.heap.size w3 w4 := by rw [hw4]; exact (Below.refl _ _).alloc (Nat.le_refl _) _
    have hh4 := heap_alloc_new w3 (.cells #[.int .i64 ef, .int .i64 el, .int .i64 et] 77)
    rw [← hw4] at hh4
    have hs4 : w4.heap.size = w3.heap.size + 1 := by rw [hw4]; simp
    rw [← hw4]
    replace hw4 := hidI hw4
    replace cG := below_cell cG hb4 (by omega)
    replace cA := below_cell cA hb4 (by omega)
    replace hh4 := hidI hh4
    have hb4h := hidI hb4
    clear hb4
    refine hK.out _ _ ?_ (fun hHeld => ?_)
    · try dsimp only
      first | assumption | exact cA
    clear hK
    try simp only [Act.put, List.setIfInBounds_toArray, List.set_cons_zero, List.set_cons_succ]
    refine wpAnyH_ready (rs := [7]) (by kernel_rfl) (by simp) ?_
    refine AllReadyH.cons rfl (fun K hK => ?_) AllReadyH.nil
    rw [if_pos (by first | rfl | kernel_rfl)]
    have hown4 : OwnsE w4 base (.slice va vn vc) es := OwnsS.later (OwnsS.later hownd.out hb3h.out (Nat.le_refl _)) hb4h.out (Nat.le_refl _)
    refine step_pushE_at _ _ rfl base (.slice va vn vc) es (ef, el, et) w3.heap.size rfl rfl hown4 hh4.out (by omega) (by omega) ?_
    intro v5 w5 hown5 hg5 hat5
    obtain ⟨a5, m5, c5, rfl⟩ := OwnsS.form3 hown5
    have hG5 : w5.heap[G]? = some (.cells #[.int .i64 r, .int .i64 s, .slice va vn vc] 30 (0, 0)) := by rw [hg5.block G (by omega) (fun e => hvG.out e.symm), hb4h.out.block G (by omega), hb3h.out.block G (by omega)]; exact hGd.out
    have hA5 : w5.heap[A]? = some (.cells #[.int .i64 y] 3 (0, 0)) := by rw [hg5.block A (by omega) (fun e => hvA.out e.symm), hb4h.out.block A (by omega), hb3h.out.block A (by omega)]; exact hAd.out
    have hs5 := hg5.size
    have hfin := lead_fin (nx := nx) hGA hvG.out hvA.out hbw.out hb3h.out hb4h.out hg5 hown5 hat5 hG5 hA5 (by omega) hbv
    rw [← hee.out] at hfin
    have p2 := cell_of_heap hG5 2
    have k0 := cell_of_heap hA5 0
    simp at p2 k0
    have f5 := fun j => frozen_of_row w5 G j _ _ hG5
    have f6 := fun j => frozen_of_row (w5.setCell ⟨G, 2, none⟩ (.slice a5 m5 c5)) A j _ _ (by rw [Below.heap_setCell _ _ _ _ (show A ≠ G by omega)]; exact hA5)
    have k9 : (w5.setCell ⟨G, 2, none⟩ (.slice a5 m5 c5)).cell? ⟨A, 0, none⟩ = some (.int .i64 y) := by rw [cell_of_heap (show (w5.setCell ⟨G, 2, none⟩ (.slice a5 m5 c5)).heap[A]? = _ by rw [Below.heap_setCell _ _ _ _ (show A ≠ G by omega)]; exact hA5)]; rfl
    replace cA := k0
    clear cG
    replace hG5 := hidI hG5
    replace hA5 := hidI hA5
    replace hfin := hidI hfin
    replace hown5 := hidI hown5
    replace hg5 := hidI hg5
    replace hat5 := hidI hat5
    refine hK.out _ _ ?_ (fun hHeld => ?_)
    · try dsimp only
      first | assumption | exact cA
    clear hK
    try simp only [Act.put, List.setIfInBounds_toArray, List.set_cons_zero, List.set_cons_succ]
    refine take_at 8 14 (v := ?_) rfl (by kernel_rfl) (by kernel_rfl) (by kernel_rfl) (by kernel_rfl) hpan (Or.inl ⟨by rfl, ?_⟩) (by assumption) ?_
    rotate_left
    · intro w hSw; (try dsimp only at hSw); go_simp; with_reducible rfl
    simp only [Act.put, List.setIfInBounds_toArray, List.set_cons_zero, List.set_cons_succ]
    refine wpAnyH_ready (rs := [9]) (by kernel_rfl) (by simp) ?_
    refine AllReadyH.cons rfl (fun K hK => ?_) AllReadyH.nil
    rw [if_pos (by first | rfl | kernel_rfl)]
    go_simp
    replace cA := k9
    refine hK.out _ _ ?_ (fun hHeld => ?_)
    · try dsimp only
      first | assumption | exact cA
    clear hK
    try simp only [Act.put, List.setIfInBounds_toArray, List.set_cons_zero, List.set_cons_succ]
    refine wpAnyH_done (by kernel_rfl) ?_ _
    refine hnorm _ _ ?_
    clear hnorm hpan
    repeat clear hHeld
    try simp only [Exit.then]
    go_wp2
    try simp only [Exit.inBlock, Exit.then]
    go_end0
    exact hfin.out
  refine AllReadyH.cons rfl (fun K hK => ?_) AllReadyH.nil
  rw [if_pos (by first | rfl | kernel_rfl)]
  go_simp
  obtain ⟨w4, hw4⟩ : ∃ z, z = w3.alloc (.cells #[.int .i64 ef, .int .i64 el, .int .i64 et] 77) := ⟨_, rfl⟩
  have hb4 : Below w3.heap.size w3 w4 := by rw [hw4]; exact (Below.refl _ _).alloc (Nat.le_refl _) _
  have hh4 := heap_alloc_new w3 (.cells #[.int .i64 ef, .int .i64 el, .int .i64 et] 77)
  rw [← hw4] at hh4
  have hs4 : w4.heap.size = w3.heap.size + 1 := by rw [hw4]; simp
  rw [← hw4]
  replace hw4 := hidI hw4
  replace cG := below_cell cG hb4 (by omega)
  replace cA := below_cell cA hb4 (by omega)
  replace hh4 := hidI hh4
  have hb4h := hidI hb4
  clear hb4
  refine hK.out _ _ ?_ (fun hHeld => ?_)
  · try dsimp only
    first | assumption | exact cA
  clear hK
  try simp only [Act.put, List.setIfInBounds_toArray, List.set_cons_zero, List.set_cons_succ]
  refine wpAnyH_ready (rs := [1]) (by kernel_rfl) (by simp) ?_
  refine AllReadyH.cons rfl (fun K hK => ?_) AllReadyH.nil
  rw [if_pos (by first | rfl | kernel_rfl)]
  go_simp
  refine hK.out _ _ ?_ (fun hHeld => ?_)
  · try dsimp only
    first | assumption | exact cA
  clear hK
  try simp only [Act.put, List.setIfInBounds_toArray, List.set_cons_zero, List.set_cons_succ]
  refine wpAnyH_ready (rs := [7]) (by kernel_rfl) (by simp) ?_
  refine AllReadyH.cons rfl (fun K hK => ?_) AllReadyH.nil
  rw [if_pos (by first | rfl | kernel_rfl)]
  have hown4 : OwnsE w4 base (.slice va vn vc) es := OwnsS.later (OwnsS.later hownd.out hb3h.out (Nat.le_refl _)) hb4h.out (Nat.le_refl _)
  refine step_pushE_at _ _ rfl base (.slice va vn vc) es (ef, el, et) w3.heap.size rfl rfl hown4 hh4.out (by omega) (by omega) ?_
  intro v5 w5 hown5 hg5 hat5
  obtain ⟨a5, m5, c5, rfl⟩ := OwnsS.form3 hown5
  have hG5 : w5.heap[G]? = some (.cells #[.int .i64 r, .int .i64 s, .slice va vn vc] 30 (0, 0)) := by rw [hg5.block G (by omega) (fun e => hvG.out e.symm), hb4h.out.block G (by omega), hb3h.out.block G (by omega)]; exact hGd.out
  have hA5 : w5.heap[A]? = some (.cells #[.int .i64 y] 3 (0, 0)) := by rw [hg5.block A (by omega) (fun e => hvA.out e.symm), hb4h.out.block A (by omega), hb3h.out.block A (by omega)]; exact hAd.out
  have hs5 := hg5.size
  have hfin := lead_fin (nx := nx) hGA hvG.out hvA.out hbw.out hb3h.out hb4h.out hg5 hown5 hat5 hG5 hA5 (by omega) hbv
  rw [← hee.out] at hfin
  have p2 := cell_of_heap hG5 2
  have k0 := cell_of_heap hA5 0
  simp at p2 k0
  have f5 := fun j => frozen_of_row w5 G j _ _ hG5
  have f6 := fun j => frozen_of_row (w5.setCell ⟨G, 2, none⟩ (.slice a5 m5 c5)) A j _ _ (by rw [Below.heap_setCell _ _ _ _ (show A ≠ G by omega)]; exact hA5)
  have k9 : (w5.setCell ⟨G, 2, none⟩ (.slice a5 m5 c5)).cell? ⟨A, 0, none⟩ = some (.int .i64 y) := by rw [cell_of_heap (show (w5.setCell ⟨G, 2, none⟩ (.slice a5 m5 c5)).heap[A]? = _ by rw [Below.heap_setCell _ _ _ _ (show A ≠ G by omega)]; exact hA5)]; rfl
  replace cA := k0
  clear cG
  replace hG5 := hidI hG5
  replace hA5 := hidI hA5
  replace hfin := hidI hfin
  replace hown5 := hidI hown5
  replace hg5 := hidI hg5
  replace hat5 := hidI hat5
  refine hK.out _ _ ?_ (fun hHeld => ?_)
  · try dsimp only
    first | assumption | exact cA
  clear hK
  try simp only [Act.put, List.setIfInBounds_toArray, List.set_cons_zero, List.set_cons_succ]
  refine take_at 8 14 (v := ?_) rfl (by kernel_rfl) (by kernel_rfl) (by kernel_rfl) (by kernel_rfl) hpan (Or.inl ⟨by rfl, ?_⟩) (by assumption) ?_
  rotate_left
  · intro w hSw; (try dsimp only at hSw); go_simp; with_reducible rfl
  simp only [Act.put, List.setIfInBounds_toArray, List.set_cons_zero, List.set_cons_succ]
  refine wpAnyH_ready (rs := [9]) (by kernel_rfl) (by simp) ?_
  refine AllReadyH.cons rfl (fun K hK => ?_) AllReadyH.nil
  rw [if_pos (by first | rfl | kernel_rfl)]
  go_simp
  replace cA := k9
  refine hK.out _ _ ?_ (fun hHeld => ?_)
  · try dsimp only
    first | assumption | exact cA
  clear hK
  try simp only [Act.put, List.setIfInBounds_toArray, List.set_cons_zero, List.set_cons_succ]
  refine wpAnyH_done (by kernel_rfl) ?_ _
  refine hnorm _ _ ?_
  clear hnorm hpan
  repeat clear hHeld
  try simp only [Exit.then]
  go_wp2
  try simp only [Exit.inBlock, Exit.then]
  go_end0
  exact hfin.out
end Go.Proofs.Ytmafaglgegimfaa
