import Derived.Maps.AppendAt
import Derived.Deep.Cut
import Derived.Lib.SliceRun
import Derived.Deep.LoopGhost
import Derived.Test.YtpjlamnjiilgbaaGreatJ5Is
import Derived.Test.YtpjlamnjiilgbaaGreatJ1Is
import Derived.Test.YtpjlamnjiilgbaaGreatJ4Is
namespace Go.Proofs.YtpjlamnjiilgbaaGreat
open Go.RowKit
set_option linter.unusedVariables false
set_option linter.unusedSimpArgs false
def LwEdgesO (w : World) (es : List Ed) (e : Ending) (w' : World) : Prop := ∃ v, e = .returned v ∧ OwnsE w' w.heap.size v es ∧ Below w.heap.size w w'
def LwGraphO (w : World) (r s : Int) (es : List Ed) (e : Ending) (w' : World) : Prop :=
 ∃ a cap, e = .returned (.agg #[.int .i64 r, .int .i64 s, .slice a es.length cap]) ∧ OwnsE w' w.heap.size (.slice a es.length cap) es ∧ Below w.heap.size w w'
theorem OwnsS.other {T : TypeId} {sz n base : Nat} {w w' : World} {v : Value} {zs : List Int} (h : OwnsS T sz w base v n zs) (hb : ∀ k, v.ownBlock = some k → w'.heap[k]? = w.heap[k]?) : OwnsS T sz w' base v n zs := by
 obtain ⟨h1, h2 | ⟨g, cap, cur, rfl, hg, hh, hr⟩⟩ := h
 · exact ⟨h1, .inl h2⟩
 · exact ⟨h1, .inr ⟨g, cap, cur, rfl, hg, (hb g rfl).trans hh, hr⟩⟩
set_option maxHeartbeats 800000 in
theorem gpCloneO (w : World) (v : Value) (es : List Ed) (h : ReadE w.heap.size w v es) (hl : es.length ≤ 1000000000) :
 Calls Tryz.prog 91 #[v] w (LwEdgesO w es) := by
 have hread := h
 obtain ⟨hzl, _, a, cap, rfl, ⟨hnil, _⟩, hr⟩ := h
 obtain ⟨n, hn⟩ := exq es.length
 rcases a with _ | ad
 · have hz : es = [] := by
    rcases hr with h0 | ⟨b, off, ha, _⟩
    · exact List.eq_nil_of_length_eq_zero h0
    · cases ha
   have hc0 := hnil rfl
   subst hc0
   subst hz
   have hr : LwEdgesO w [] (.returned (.slice none 0 0)) w := ⟨_, rfl, OwnsS.nil _ _, Below.refl _ _⟩
   replace hr := hidI hr
   have heq := fun W : World => Lib.run_eql_slice_nil (P := Tryz.prog) W 24 72 none 0 0 0 0 Tryz.underlying24
   clear hread hn hnil
   go_enter Tryz.func91, Tryz.ntmps91
   go_wp2
   go_ret
   exact hr.out
 · have hlit : OwnsE (w.alloc (.cells #[] 72)) w.heap.size (.slice (some ⟨w.heap.size, 0, none⟩) 0 0) [] := OwnsE.litE w
   have hb0 := (Below.refl w.heap.size w).alloc (Nat.le_refl _) (.cells #[] 72)
   have hx := hread.below hb0
   have hl3 : ([] : List Ed).length + es.length ≤ 1000000000 := by simp; omega
   have hl4 : es.length ≤ 1000000000000 := by omega
   replace hlit := hidI hlit
   replace hx := hidI hx
   replace hl4 := hidI hl4
   rw [← hn]
   replace hl3 := hidI hl3
   have hx' : Hid (ReadE w.heap.size (w.alloc (.cells #[] 72)) (.slice (some ad) n cap) es) := hidI (by rw [hn]; exact hx.out)
   clear hx
   replace hn := hidI hn
   replace hread := hidI hread
   clear hr hnil hzl
   have heq := fun W : World => Lib.run_eql_slice_nil (P := Tryz.prog) W 24 72 (some ad) n cap 0 0 Tryz.underlying24
   go_enter Tryz.func91, Tryz.ntmps91
   go_wp2_with (at_builtin; go_must (refine wpList_pushAllE rfl _ _ rfl w.heap.size _ _ [] es w.heap.size rfl rfl (by exact hlit.out) (by exact hx'.out) hl3.out (by simp) ?_))
   intro v1 w1 hown1 hb1'
   have hb1 := hb0.trans hb1'
   have hr : LwEdgesO w es (.returned v1) w1 := ⟨_, rfl, by simpa using hown1, hb1⟩
   replace hr := hidI hr
   clear hown1 hb1' hlit hx' hb0 hb1
   go_wp2
   go_ret
   exact hr.out
set_option maxHeartbeats 1600000 in
theorem gpCopyO (w : World) (r s : Int) (v : Value) (es : List Ed) (h : ReadE w.heap.size w v es) (hl : es.length ≤ 1000000000) :
 Calls Tryz.prog 150 #[.agg #[.int .i64 r, .int .i64 s, v]] w (LwGraphO w r s es) := by
 obtain ⟨a, cap, rfl, hnc⟩ := h.form
 obtain ⟨n, hn⟩ := exq es.length
 rw [← hn] at h hnc
 obtain ⟨w1, hw1⟩ := exq ((w.alloc (.cells #[.int .i64 r, .int .i64 s, .slice a n cap] 26)).alloc (.cells #[.int .i64 0, .int .i64 0, .slice none 0 0] 26))
 have hb1 : Below w.heap.size w w1 := by rw [hw1]; exact ((Below.refl _ _).alloc (Nat.le_refl _) _).alloc (by simp) _
 have hs1 : w1.heap.size = w.heap.size + 1 + 1 := by rw [hw1]; simp
 have hg := heap_box w (.cells #[.int .i64 r, .int .i64 s, .slice a n cap] 26) (.cells #[.int .i64 0, .int .i64 0, .slice none 0 0] 26)
 have hk := heap_alloc_new (w.alloc (.cells #[.int .i64 r, .int .i64 s, .slice a n cap] 26)) (.cells #[.int .i64 0, .int .i64 0, .slice none 0 0] 26)
 rw [← hw1] at hg hk
 rw [show (w.alloc (.cells #[.int .i64 r, .int .i64 s, .slice a n cap] 26)).heap.size = w.heap.size + 1 by simp] at hk
 have hrd1 := (h.below hb1).mono hb1.size
 rw [hn] at hrd1
 have hcl := gpCloneO w1 _ es hrd1 hl
 rw [← hn] at hcl ⊢
 replace hn := hidI hn
 replace h := hidI h
 replace hrd1 := hidI hrd1
 replace hs1 := hidI hs1
 replace hw1 := hidI hw1
 have g0 : w1.cell? ⟨w.heap.size, 0, none⟩ = some (.int .i64 r) := by simpa using cell_of_heap hg 0
 have g1 : w1.cell? ⟨w.heap.size, 1, none⟩ = some (.int .i64 s) := by simpa using cell_of_heap hg 1
 have g2 : w1.cell? ⟨w.heap.size, 2, none⟩ = some (.slice a n cap) := by simpa using cell_of_heap hg 2
 replace hg := hidI hg
 replace hk := hidI hk
 go_enter Tryz.func150, Tryz.ntmps150
 go_wp2_with fail
 rw [← hw1.out]
 refine hcl.mono ?_
 intro e w2 h2
 obtain ⟨v2, rfl, hrow, hb2⟩ := h2
 obtain ⟨b, cap2, hv2⟩ : ∃ b c, v2 = Value.slice b es.length c := by
  obtain ⟨_, ⟨h1, h2⟩ | ⟨g, cap', cur, h1, _⟩⟩ := hrow
  · exact ⟨none, 0, by rw [h1, h2]⟩
  · exact ⟨_, _, h1⟩
 subst hv2
 rw [← hn.out]
 rw [← hn.out] at hrow
 have hk1 : w2.heap[w.heap.size]? = some (.cells #[.int .i64 r, .int .i64 s, .slice a n cap] 26 (0, 0)) := by rw [hb2.block _ (by have := hs1.out; omega)]; exact hg.out
 have hk2 : w2.heap[w.heap.size + 1]? = some (.cells #[.int .i64 0, .int .i64 0, .slice none 0 0] 26 (0, 0)) := by rw [hb2.block _ (by have := hs1.out; omega)]; exact hk.out
 obtain ⟨w3, hw3⟩ := exq (w2.setCell ⟨w.heap.size, 2, none⟩ (.slice b n cap2))
 obtain ⟨q0, q1, q2⟩ := cell3 hk1
 obtain ⟨k0, k1, k2⟩ := cell3 hk2
 have f1 := fun j => frozen_of_row w2 w.heap.size j _ _ hk1
 have f2 := fun j => frozen_of_row w2 (w.heap.size + 1) j _ _ hk2
 simp at q0 q1 q2 k0 k1 k2
 have hbz := hb1.trans (hb2.mono hb1.size)
 have hfin : LwGraphO w r s es (.returned (.agg #[.int .i64 r, .int .i64 s, .slice b n cap2])) ((((w2.setCell ⟨w.heap.size, 2, none⟩ (.slice b n cap2)).setCell ⟨w.heap.size + 1, 0, none⟩ (.int .i64 r)).setCell ⟨w.heap.size + 1, 1, none⟩ (.int .i64 s)).setCell ⟨w.heap.size + 1, 2, none⟩ (.slice b n cap2)) := by
  have hs := hs1.out
  refine ⟨b, cap2, by rw [hn.out], ?_, below_set3 (hbz.setCell (p := ⟨w.heap.size, 2, none⟩) (Nat.le_refl _) _) (by omega)⟩
  have hlt := World.ownsRow.lt hrow
  rw [← hn.out]
  exact OwnsS.mono (OwnsS.other hrow (fun k hk => by
   have := (hlt k hk).1
   rw [heap_set3 (by omega), Below.heap_setCell _ _ _ _ (show k ≠ w.heap.size by omega)])) (by omega)
 have hky : (w2.setCell ⟨w.heap.size, 2, none⟩ (.slice b n cap2)).heap[w.heap.size + 1]? = some (.cells #[.int .i64 0, .int .i64 0, .slice none 0 0] 26 (0, 0)) := by
  rw [Below.heap_setCell _ _ _ _ (show w.heap.size + 1 ≠ w.heap.size by omega)]; exact hk2
 replace hfin := hidI hfin
 replace hky := hidI hky
 replace hk1 := hidI hk1
 replace hk2 := hidI hk2
 replace hw3 := hidI hw3
 replace hrow := hidI hrow
 clear g0 g1 g2
 go_wp2
 (try simp only [Exit.inBlock, Exit.then])
 refine ret_cell rfl (g := w.heap.size + 1) rfl (set3 hky.out _ _ _) Tryz.underlying26 sizeGraph ?_
 exact hfin.out
def eB (u l v : Int) : Ed := if l < 0 then (v, -l, u) else (u, l, v)
set_option maxHeartbeats 800000 in
theorem between_edge (w : World) (u l v : Int) (hl : -9223372036854775807 ≤ l) (hl2 : l ≤ 9223372036854775807) :
 Calls Tryz.prog 125 #[.int .i64 u, .int .i64 l, .int .i64 v] w fun x w' => x = .returned (.agg #[.int .i64 (eB u l v).1, .int .i64 (eB u l v).2.1, .int .i64 (eB u l v).2.2]) ∧ Below w.heap.size w w' := by
 obtain ⟨w1, hw1⟩ := exq (w.alloc (.cells #[.int .i64 0, .int .i64 0, .int .i64 0] 72))
 have hb1 : Below w.heap.size w w1 := by rw [hw1]; exact (Below.refl _ _).alloc (Nat.le_refl _) _
 have hk1 := heap_alloc_new w (.cells #[.int .i64 0, .int .i64 0, .int .i64 0] 72)
 rw [← hw1] at hk1
 obtain ⟨c0, c1, c2⟩ := cell3 hk1
 have f1 := fun j => frozen_of_row w1 w.heap.size j _ _ hk1
 simp at c0 c1 c2
 replace hw1 := hidI hw1
 replace hk1 := hidI hk1
 by_cases h : l < 0
 · have he : eB u l v = (v, -l, u) := if_pos h
   have hq : wrap64 (-l) = -l := by unfold wrap64; omega
   rw [he]
   replace he := hidI he
   go_enter Tryz.func125, Tryz.ntmps125
   go_upto_region 1 with fail
   rw [← hw1.out]
   go_wp2
   (try simp only [Exit.inBlock, Exit.then])
   refine ret_cell rfl (g := w.heap.size) rfl (set3 hk1.out _ _ _) Tryz.underlying72 sizeEdge ?_
   refine ⟨?_, below_set3 hb1 (Nat.le_refl _)⟩
   first | rfl | (try simp only [hq]; try rfl)
 · have he : eB u l v = (u, l, v) := if_neg h
   rw [he]
   replace he := hidI he
   go_enter Tryz.func125, Tryz.ntmps125
   go_upto_region 1 with fail
   rw [← hw1.out]
   go_wp2
   (try simp only [Exit.inBlock, Exit.then])
   refine ret_cell rfl (g := w.heap.size) rfl (set3 hk1.out _ _ _) Tryz.underlying72 sizeEdge ?_
   exact ⟨rfl, below_set3 hb1 (Nat.le_refl _)⟩
theorem step_pushE_at {w0 : World} {o : Oper} {a : Act} {K : Act → World → Prop} {Q : Exit → Act → World → Prop} (s x : Operand)
 (ho : o.op = .call { callee := .builtin .append, args := #[s, x], argTypes := #[24, 24] }) (base : Nat) (v : Value) (es : List Ed) (e : Ed) (blk : Nat)
 (hs : a.eval s = v) (hx : a.eval x = .slice (some ⟨blk, 0, none⟩) 1 1) (hown : OwnsE w0 base v es) (hc : w0.heap[blk]? = some (.cells #[.int .i64 e.1, .int .i64 e.2.1, .int .i64 e.2.2] 72 (0, 0))) (hl : es.length ≤ 1000000000) (hbase : base ≤ w0.heap.size)
 (h : ∀ v' w', OwnsE w' base v' (es ++ [e]) → w0.grownBy w' v.ownBlock → (v'.ownBlock = v.ownBlock ∨ v'.ownBlock = some w0.heap.size) → K (a.put o.dst v') w') :
 Oper.wp Tryz.prog o a w0 K Q := by
 obtain ⟨i0, hi, hz0, hz1, hz2⟩ := info_parts infoEdge
 obtain ⟨v', w', hrun, h2, h3, h4, h5⟩ := run_append_own_at (P := Tryz.prog) w0 base 24 o.type 72 i0 _ 3 24 Tryz.underlying24 hi hz0 hz1 hz2 rfl (by decide) v es.length ((flatE es).map iv) hown ⟨blk, 0, none⟩ 1 1 [iv e.1, iv e.2.1, iv e.2.2] rfl (by
  intro j u hj
  rw [addr_plus, Nat.zero_add]
  have c := cell_of_heap hc j
  match j, hj with
  | 0, hj => simp at hj; subst hj; simpa [iv] using c
  | 1, hj => simp at hj; subst hj; simpa [iv] using c
  | 2, hj => simp at hj; subst hj; simpa [iv] using c) (by
  intro u hu
  simp at hu
  rcases hu with rfl | rfl | rfl <;> rfl) (by unfold maxLen; omega) (by omega) hbase
 unfold Oper.wp execOp
 simp only [ho, resolve, invoke, builtin, Sem.run_bind, Sem.run_pure, Result.andThen_ok, List.map_toArray, List.map_cons, List.map_nil, hs, hx, hrun]
 exact h v' w' (by unfold OwnsE OwnsS; rw [flatE_append, List.length_append, List.map_append]; simpa [flatE] using h2) h3 h5
structure PathSt (w : World) (G A base : Nat) (r s y : Int) (v : Value) (es : List Ed) : Prop where
 box : w.heap[G]? = some (.cells #[.int .i64 r, .int .i64 s, v] 26 (0, 0))
 at_ : w.heap[A]? = some (.cells #[.int .i64 y] 3 (0, 0))
 row : OwnsE w base v es
 vG : v.ownBlock ≠ some G
 vA : v.ownBlock ≠ some A
 GA : G < base ∧ base ≤ A ∧ A < w.heap.size
def KeptBut (B G : Nat) (w w' : World) : Prop := w'.os = w.os ∧ w'.tape = w.tape ∧ w'.output = w.output ∧ w.heap.size ≤ w'.heap.size ∧ ∀ k, k < B → k ≠ G → w'.heap[k]? = w.heap[k]?
theorem KeptBut.refl (B G : Nat) (w : World) : KeptBut B G w w := ⟨rfl, rfl, rfl, Nat.le_refl _, fun _ _ _ => rfl⟩
theorem KeptBut.trans {B G : Nat} {a b c : World} (h : KeptBut B G a b) (k : KeptBut B G b c) : KeptBut B G a c :=
 ⟨k.1.trans h.1, k.2.1.trans h.2.1, k.2.2.1.trans h.2.2.1, Nat.le_trans h.2.2.2.1 k.2.2.2.1, fun i hi hne => (k.2.2.2.2 i hi hne).trans (h.2.2.2.2 i hi hne)⟩
theorem KeptBut.of_below {B G : Nat} {a b : World} (h : Below B a b) : KeptBut B G a b := ⟨h.os, h.tape, h.output, h.size, fun k hk _ => h.block k hk⟩
theorem KeptBut.below {B G : Nat} {a b : World} (h : KeptBut B G a b) (hG : G ≤ B) : Below G a b := ⟨h.1, h.2.1, h.2.2.1, h.2.2.2.1, fun k hk => h.2.2.2.2 k (by omega) (by omega)⟩
def LeadRet (w : World) (G A base : Nat) (r s y : Int) (es : List Ed) (e : Ending) (w' : World) : Prop :=
 e = .returned (.tuple #[]) ∧ (∃ v', PathSt w' G A base r s y v' es) ∧ KeptBut base G w w'
theorem lead_fin {w wd w3 w4 w5 : World} {G A base : Nat} {r s y nx : Int} {v va5 : Value} {es' : List Ed} (hGA : G < base ∧ base ≤ A ∧ A < w.heap.size) (hvG : v.ownBlock ≠ some G) (hvA : v.ownBlock ≠ some A) (hbw : Below w.heap.size w wd) (hb3 : Below wd.heap.size wd w3) (hb4 : Below w3.heap.size w3 w4) (hg5 : w4.grownBy w5 v.ownBlock) (hown5 : OwnsE w5 base va5 es')
 (hat5 : va5.ownBlock = v.ownBlock ∨ va5.ownBlock = some w4.heap.size) {v0 : Value} (hG5 : w5.heap[G]? = some (.cells #[.int .i64 r, .int .i64 s, v0] 26 (0, 0))) (hA5 : w5.heap[A]? = some (.cells #[.int .i64 y] 3 (0, 0))) (h4 : w.heap.size ≤ w4.heap.size) (hbv : ∀ k, v.ownBlock = some k → base ≤ k) :
 LeadRet w G A base r s nx es' (.returned (.tuple #[])) ((w5.setCell ⟨G, 2, none⟩ va5).setCell ⟨A, 0, none⟩ (.int .i64 nx)) := by
 have hs5 := hg5.size
 have hne : A ≠ G := by omega
 have hv5G : va5.ownBlock ≠ some G := by
  rcases hat5 with e | e
  · rw [e]; exact hvG
  · rw [e]; simp; omega
 have hv5A : va5.ownBlock ≠ some A := by
  rcases hat5 with e | e
  · rw [e]; exact hvA
  · rw [e]; simp; omega
 refine ⟨rfl, ⟨va5, ⟨?_, ?_, ?_, hv5G, hv5A, ⟨hGA.1, hGA.2.1, by simp [World.setCell]; omega⟩⟩⟩, ?_⟩
 · rw [Below.heap_setCell _ _ _ _ (show G ≠ A by omega)]
   have := heap_setCell_same w5 G 2 _ _ va5 hG5
   simpa using this
 · have h1 : (w5.setCell ⟨G, 2, none⟩ va5).heap[A]? = some (.cells #[.int .i64 y] 3 (0, 0)) := by rw [Below.heap_setCell _ _ _ _ hne]; exact hA5
   have := heap_setCell_same _ A 0 _ _ (.int .i64 nx) h1
   simpa using this
 · exact OwnsS.other hown5 (fun k hk => by
    rw [Below.heap_setCell _ _ _ _ (show k ≠ A by rintro rfl; exact hv5A hk), Below.heap_setCell _ _ _ _ (show k ≠ G by rintro rfl; exact hv5G hk)])
 · have hb := hbw.trans (hb3.mono hbw.size)
   have hb' := hb.trans (hb4.mono hb.size)
   refine ⟨?_, ?_, ?_, ?_, fun k hk hkG => ?_⟩
   · exact hg5.os.trans hb'.os
   · exact hg5.tape.trans hb'.tape
   · exact hg5.output.trans hb'.output
   · have := hb'.size; simp [World.setCell]; omega
   · rw [Below.heap_setCell _ _ _ _ (show k ≠ A by omega), Below.heap_setCell _ _ _ _ hkG, hg5.block k (by omega) (fun e => by have := hbv k e.symm; omega), hb'.block k (by omega)]
set_option maxRecDepth 100000 in
set_option maxHeartbeats 6400000 in
theorem leadTo_any (w : World) (G A base : Nat) (r s y nx l : Int) (v : Value) (es : List Ed) (h : PathSt w G A base r s y v es) (hl : es.length ≤ 100000) (hl1 : -9223372036854775807 ≤ l) (hl2 : l ≤ 9223372036854775807) :
 Calls Tryz.prog 191 #[.int .i64 nx, .int .i64 l, .pointer (some ⟨G, 0, none⟩), .pointer (some ⟨A, 0, none⟩)] w (LeadRet w G A base r s nx (es ++ [eB y l nx])) := by
 obtain ⟨hG, hA, hrow, hvG, hvA, hGA⟩ := h
 obtain ⟨va, vn, vc, rfl⟩ := OwnsS.form3 hrow
 have hGA' := hGA
 obtain ⟨hGb, hbA, hAs⟩ := hGA'
 obtain ⟨wd, hwd⟩ := exq w.drew
 have hbd : Below w.heap.size w wd := by rw [hwd]; exact below_dn (Below.refl _ _) 1
 have hsd : wd.heap.size = w.heap.size := by rw [hwd]; rfl
 have hGd : wd.heap[G]? = some (.cells #[.int .i64 r, .int .i64 s, .slice va vn vc] 26 (0, 0)) := by rw [hwd]; exact hG
 have hAd : wd.heap[A]? = some (.cells #[.int .i64 y] 3 (0, 0)) := by rw [hwd]; exact hA
 have hownd : OwnsE wd base (.slice va vn vc) es := by rw [hwd]; exact hrow
 have hbv : ∀ k, (Value.slice va vn vc).ownBlock = some k → base ≤ k := fun k hk => (World.ownsRow.lt hrow k hk).1
 have cG := cell_of_heap hGd 2
 have cA := cell_of_heap hAd 0
 simp at cG cA
 obtain ⟨ef, el, et, hee⟩ : ∃ f l' t, eB y l nx = (f, l', t) := ⟨_, _, _, rfl⟩
 have hcall := between_edge wd y l nx hl1 hl2
 rw [hee] at hcall
 have hbw := hidI hbd
 replace hee := hidI hee
 replace hwd := hidI hwd
 replace hGd := hidI hGd
 replace hAd := hidI hAd
 replace hownd := hidI hownd
 replace hG := hidI hG
 replace hA := hidI hA
 replace hrow := hidI hrow
 replace hvG := hidI hvG
 replace hvA := hidI hvA
 clear hbd
 go_enter Tryz.func191, Tryz.ntmps191
 go_wp2
 refine hideQ (fun _ _ d _ _ h => by cases d <;> exact h) (fun Q' hnorm hpan => ?_)
 refine wp_region_held_drew (S := fun z => z.cell? ⟨A, 0, none⟩ = some (.int .i64 y)) (by kernel_rfl) ?_ (fun hHeld => ?_)
 · try dsimp only
   rw [← hwd.out]
   exact cA
 rw [← hwd.out] at hHeld ⊢
 refine tk 0 6 ?_
 refine tk 2 8 ?_
 refine tk 3 9 ?_
 refine tk 4 10 ?_
 refine wpAnyH_ready (rs := [1, 5]) (by kernel_rfl) (by simp) ?_
 refine AllReadyH.cons rfl (fun K hK => ?_) ?_
 ·
  rw [if_pos (by first | rfl | kernel_rfl)]
  go_simp
  refine hK.out _ _ ?_ (fun hHeld => ?_)
  · try dsimp only
    first | assumption | exact cA
  clear hK
  try simp only [Act.put, lyA, lyB, lyC]
  refine rd 5 (fun K hK => ?_)
  rw [if_pos (by first | rfl | kernel_rfl)]
  go_simp
  go_at_call 125
  (with_reducible refine hcall.mono ?_)
  rintro e w3 ⟨rfl, hb3⟩
  replace cG := below_cell cG hb3 (by omega)
  replace cA := below_cell cA hb3 (by omega)
  have hs3 := hb3.size
  have hb3h := hidI hb3
  clear hb3
  refine hK.out _ _ ?_ (fun hHeld => ?_)
  · try dsimp only
    first | assumption | exact cA
  clear hK
  try simp only [Act.put, lyA, lyB, lyC]
  refine rd 6 (fun K hK => ?_)
  rw [if_pos (by first | rfl | kernel_rfl)]
  go_simp
  obtain ⟨w4, hw4⟩ := exq (w3.alloc (.cells #[.int .i64 ef, .int .i64 el, .int .i64 et] 72))
  have hb4 : Below w3.heap.size w3 w4 := by rw [hw4]; exact (Below.refl _ _).alloc (Nat.le_refl _) _
  have hh4 := heap_alloc_new w3 (.cells #[.int .i64 ef, .int .i64 el, .int .i64 et] 72)
  rw [← hw4] at hh4
  have hs4 : w4.heap.size = w3.heap.size + 1 := by rw [hw4]; simp
  rw [← hw4]
  replace hw4 := hidI hw4
  replace cG := below_cell cG hb4 (by omega)
  replace cA := below_cell cA hb4 (by omega)
  replace hh4 := hidI hh4
  have hb4h := hidI hb4
  clear hb4
  refine hK.out _ _ ?_ (fun hHeld => ?_)
  · try dsimp only
    first | assumption | exact cA
  clear hK
  try simp only [Act.put, lyA, lyB, lyC]
  refine rd 7 (fun K hK => ?_)
  rw [if_pos (by first | rfl | kernel_rfl)]
  have hown4 : OwnsE w4 base (.slice va vn vc) es := OwnsS.later (OwnsS.later hownd.out hb3h.out (Nat.le_refl _)) hb4h.out (Nat.le_refl _)
  refine step_pushE_at _ _ rfl base (.slice va vn vc) es (ef, el, et) w3.heap.size rfl rfl hown4 hh4.out (by omega) (by omega) ?_
  intro v5 w5 hown5 hg5 hat5
  obtain ⟨a5, m5, c5, rfl⟩ := OwnsS.form3 hown5
  have hG5 : w5.heap[G]? = some (.cells #[.int .i64 r, .int .i64 s, .slice va vn vc] 26 (0, 0)) := by rw [hg5.block G (by omega) (fun e => hvG.out e.symm), hb4h.out.block G (by omega), hb3h.out.block G (by omega)]; exact hGd.out
  have hA5 : w5.heap[A]? = some (.cells #[.int .i64 y] 3 (0, 0)) := by rw [hg5.block A (by omega) (fun e => hvA.out e.symm), hb4h.out.block A (by omega), hb3h.out.block A (by omega)]; exact hAd.out
  have hs5 := hg5.size
  have hfin := lead_fin (nx := nx) hGA hvG.out hvA.out hbw.out hb3h.out hb4h.out hg5 hown5 hat5 hG5 hA5 (by omega) hbv
  rw [← hee.out] at hfin
  have p2 := cell_of_heap hG5 2
  have k0 := cell_of_heap hA5 0
  simp at p2 k0
  have f5 := fun j => frozen_of_row w5 G j _ _ hG5
  have f6 := fun j => frozen_of_row (w5.setCell ⟨G, 2, none⟩ (.slice a5 m5 c5)) A j _ _ (by rw [Below.heap_setCell _ _ _ _ (show A ≠ G by omega)]; exact hA5)
  have k9 : (w5.setCell ⟨G, 2, none⟩ (.slice a5 m5 c5)).cell? ⟨A, 0, none⟩ = some (.int .i64 y) := by rw [cell_of_heap (show (w5.setCell ⟨G, 2, none⟩ (.slice a5 m5 c5)).heap[A]? = _ by rw [Below.heap_setCell _ _ _ _ (show A ≠ G by omega)]; exact hA5)]; rfl
  replace cA := k0
  clear cG
  replace hG5 := hidI hG5
  replace hA5 := hidI hA5
  replace hfin := hidI hfin
  replace hown5 := hidI hown5
  replace hg5 := hidI hg5
  replace hat5 := hidI hat5
  refine hK.out _ _ ?_ (fun hHeld => ?_)
  · try dsimp only
    first | assumption | exact cA
  clear hK
  try simp only [Act.put, lyA, lyB, lyC]
  refine tk 8 14 ?_
  refine rd 9 (fun K hK => ?_)
  rw [if_pos (by first | rfl | kernel_rfl)]
  go_simp
  replace cA := k9
  refine hK.out _ _ ?_ (fun hHeld => ?_)
  · try dsimp only
    first | assumption | exact cA
  clear hK
  try simp only [Act.put, lyA, lyB, lyC]
  refine wpAnyH_done (by kernel_rfl) ?_ _
  refine hnorm _ _ ?_
  clear hnorm hpan
  repeat clear hHeld
  try simp only [Exit.then]
  go_wp2
  try simp only [Exit.inBlock, Exit.then]
  go_end0
  exact hfin.out
 refine AllReadyH.cons rfl (fun K hK => ?_) AllReadyH.nil
 rw [if_pos (by first | rfl | kernel_rfl)]
 go_simp
 go_at_call 125
 (with_reducible refine hcall.mono ?_)
 rintro e w3 ⟨rfl, hb3⟩
 replace cG := below_cell cG hb3 (by omega)
 replace cA := below_cell cA hb3 (by omega)
 have hs3 := hb3.size
 have hb3h := hidI hb3
 clear hb3
 refine hK.out _ _ ?_ (fun hHeld => ?_)
 · try dsimp only
   first | assumption | exact cA
 clear hK
 try simp only [Act.put, lyA, lyB, lyC]
 refine wpAnyH_ready (rs := [1, 6]) (by kernel_rfl) (by simp) ?_
 refine AllReadyH.cons rfl (fun K hK => ?_) ?_
 ·
  rw [if_pos (by first | rfl | kernel_rfl)]
  go_simp
  refine hK.out _ _ ?_ (fun hHeld => ?_)
  · try dsimp only
    first | assumption | exact cA
  clear hK
  try simp only [Act.put, lyA, lyB, lyC]
  refine rd 6 (fun K hK => ?_)
  rw [if_pos (by first | rfl | kernel_rfl)]
  go_simp
  obtain ⟨w4, hw4⟩ := exq (w3.alloc (.cells #[.int .i64 ef, .int .i64 el, .int .i64 et] 72))
  have hb4 : Below w3.heap.size w3 w4 := by rw [hw4]; exact (Below.refl _ _).alloc (Nat.le_refl _) _
  have hh4 := heap_alloc_new w3 (.cells #[.int .i64 ef, .int .i64 el, .int .i64 et] 72)
  rw [← hw4] at hh4
  have hs4 : w4.heap.size = w3.heap.size + 1 := by rw [hw4]; simp
  rw [← hw4]
  replace hw4 := hidI hw4
  replace cG := below_cell cG hb4 (by omega)
  replace cA := below_cell cA hb4 (by omega)
  replace hh4 := hidI hh4
  have hb4h := hidI hb4
  clear hb4
  refine hK.out _ _ ?_ (fun hHeld => ?_)
  · try dsimp only
    first | assumption | exact cA
  clear hK
  try simp only [Act.put, lyA, lyB, lyC]
  refine rd 7 (fun K hK => ?_)
  rw [if_pos (by first | rfl | kernel_rfl)]
  have hown4 : OwnsE w4 base (.slice va vn vc) es := OwnsS.later (OwnsS.later hownd.out hb3h.out (Nat.le_refl _)) hb4h.out (Nat.le_refl _)
  refine step_pushE_at _ _ rfl base (.slice va vn vc) es (ef, el, et) w3.heap.size rfl rfl hown4 hh4.out (by omega) (by omega) ?_
  intro v5 w5 hown5 hg5 hat5
  obtain ⟨a5, m5, c5, rfl⟩ := OwnsS.form3 hown5
  have hG5 : w5.heap[G]? = some (.cells #[.int .i64 r, .int .i64 s, .slice va vn vc] 26 (0, 0)) := by rw [hg5.block G (by omega) (fun e => hvG.out e.symm), hb4h.out.block G (by omega), hb3h.out.block G (by omega)]; exact hGd.out
  have hA5 : w5.heap[A]? = some (.cells #[.int .i64 y] 3 (0, 0)) := by rw [hg5.block A (by omega) (fun e => hvA.out e.symm), hb4h.out.block A (by omega), hb3h.out.block A (by omega)]; exact hAd.out
  have hs5 := hg5.size
  have hfin := lead_fin (nx := nx) hGA hvG.out hvA.out hbw.out hb3h.out hb4h.out hg5 hown5 hat5 hG5 hA5 (by omega) hbv
  rw [← hee.out] at hfin
  have p2 := cell_of_heap hG5 2
  have k0 := cell_of_heap hA5 0
  simp at p2 k0
  have f5 := fun j => frozen_of_row w5 G j _ _ hG5
  have f6 := fun j => frozen_of_row (w5.setCell ⟨G, 2, none⟩ (.slice a5 m5 c5)) A j _ _ (by rw [Below.heap_setCell _ _ _ _ (show A ≠ G by omega)]; exact hA5)
  have k9 : (w5.setCell ⟨G, 2, none⟩ (.slice a5 m5 c5)).cell? ⟨A, 0, none⟩ = some (.int .i64 y) := by rw [cell_of_heap (show (w5.setCell ⟨G, 2, none⟩ (.slice a5 m5 c5)).heap[A]? = _ by rw [Below.heap_setCell _ _ _ _ (show A ≠ G by omega)]; exact hA5)]; rfl
  replace cA := k0
  clear cG
  replace hG5 := hidI hG5
  replace hA5 := hidI hA5
  replace hfin := hidI hfin
  replace hown5 := hidI hown5
  replace hg5 := hidI hg5
  replace hat5 := hidI hat5
  refine hK.out _ _ ?_ (fun hHeld => ?_)
  · try dsimp only
    first | assumption | exact cA
  clear hK
  try simp only [Act.put, lyA, lyB, lyC]
  refine tk 8 14 ?_
  refine rd 9 (fun K hK => ?_)
  rw [if_pos (by first | rfl | kernel_rfl)]
  go_simp
  replace cA := k9
  refine hK.out _ _ ?_ (fun hHeld => ?_)
  · try dsimp only
    first | assumption | exact cA
  clear hK
  try simp only [Act.put, lyA, lyB, lyC]
  refine wpAnyH_done (by kernel_rfl) ?_ _
  refine hnorm _ _ ?_
  clear hnorm hpan
  repeat clear hHeld
  try simp only [Exit.then]
  go_wp2
  try simp only [Exit.inBlock, Exit.then]
  go_end0
  exact hfin.out
 refine AllReadyH.cons rfl (fun K hK => ?_) AllReadyH.nil
 rw [if_pos (by first | rfl | kernel_rfl)]
 go_simp
 obtain ⟨w4, hw4⟩ := exq (w3.alloc (.cells #[.int .i64 ef, .int .i64 el, .int .i64 et] 72))
 have hb4 : Below w3.heap.size w3 w4 := by rw [hw4]; exact (Below.refl _ _).alloc (Nat.le_refl _) _
 have hh4 := heap_alloc_new w3 (.cells #[.int .i64 ef, .int .i64 el, .int .i64 et] 72)
 rw [← hw4] at hh4
 have hs4 : w4.heap.size = w3.heap.size + 1 := by rw [hw4]; simp
 rw [← hw4]
 replace hw4 := hidI hw4
 replace cG := below_cell cG hb4 (by omega)
 replace cA := below_cell cA hb4 (by omega)
 replace hh4 := hidI hh4
 have hb4h := hidI hb4
 clear hb4
 refine hK.out _ _ ?_ (fun hHeld => ?_)
 · try dsimp only
   first | assumption | exact cA
 clear hK
 try simp only [Act.put, lyA, lyB, lyC]
 refine rd 1 (fun K hK => ?_)
 rw [if_pos (by first | rfl | kernel_rfl)]
 go_simp
 refine hK.out _ _ ?_ (fun hHeld => ?_)
 · try dsimp only
   first | assumption | exact cA
 clear hK
 try simp only [Act.put, lyA, lyB, lyC]
 refine rd 7 (fun K hK => ?_)
 rw [if_pos (by first | rfl | kernel_rfl)]
 have hown4 : OwnsE w4 base (.slice va vn vc) es := OwnsS.later (OwnsS.later hownd.out hb3h.out (Nat.le_refl _)) hb4h.out (Nat.le_refl _)
 refine step_pushE_at _ _ rfl base (.slice va vn vc) es (ef, el, et) w3.heap.size rfl rfl hown4 hh4.out (by omega) (by omega) ?_
 intro v5 w5 hown5 hg5 hat5
 obtain ⟨a5, m5, c5, rfl⟩ := OwnsS.form3 hown5
 have hG5 : w5.heap[G]? = some (.cells #[.int .i64 r, .int .i64 s, .slice va vn vc] 26 (0, 0)) := by rw [hg5.block G (by omega) (fun e => hvG.out e.symm), hb4h.out.block G (by omega), hb3h.out.block G (by omega)]; exact hGd.out
 have hA5 : w5.heap[A]? = some (.cells #[.int .i64 y] 3 (0, 0)) := by rw [hg5.block A (by omega) (fun e => hvA.out e.symm), hb4h.out.block A (by omega), hb3h.out.block A (by omega)]; exact hAd.out
 have hs5 := hg5.size
 have hfin := lead_fin (nx := nx) hGA hvG.out hvA.out hbw.out hb3h.out hb4h.out hg5 hown5 hat5 hG5 hA5 (by omega) hbv
 rw [← hee.out] at hfin
 have p2 := cell_of_heap hG5 2
 have k0 := cell_of_heap hA5 0
 simp at p2 k0
 have f5 := fun j => frozen_of_row w5 G j _ _ hG5
 have f6 := fun j => frozen_of_row (w5.setCell ⟨G, 2, none⟩ (.slice a5 m5 c5)) A j _ _ (by rw [Below.heap_setCell _ _ _ _ (show A ≠ G by omega)]; exact hA5)
 have k9 : (w5.setCell ⟨G, 2, none⟩ (.slice a5 m5 c5)).cell? ⟨A, 0, none⟩ = some (.int .i64 y) := by rw [cell_of_heap (show (w5.setCell ⟨G, 2, none⟩ (.slice a5 m5 c5)).heap[A]? = _ by rw [Below.heap_setCell _ _ _ _ (show A ≠ G by omega)]; exact hA5)]; rfl
 replace cA := k0
 clear cG
 replace hG5 := hidI hG5
 replace hA5 := hidI hA5
 replace hfin := hidI hfin
 replace hown5 := hidI hown5
 replace hg5 := hidI hg5
 replace hat5 := hidI hat5
 refine hK.out _ _ ?_ (fun hHeld => ?_)
 · try dsimp only
   first | assumption | exact cA
 clear hK
 try simp only [Act.put, lyA, lyB, lyC]
 refine tk 8 14 ?_
 refine rd 9 (fun K hK => ?_)
 rw [if_pos (by first | rfl | kernel_rfl)]
 go_simp
 replace cA := k9
 refine hK.out _ _ ?_ (fun hHeld => ?_)
 · try dsimp only
   first | assumption | exact cA
 clear hK
 try simp only [Act.put, lyA, lyB, lyC]
 refine wpAnyH_done (by kernel_rfl) ?_ _
 refine hnorm _ _ ?_
 clear hnorm hpan
 repeat clear hHeld
 try simp only [Exit.then]
 go_wp2
 try simp only [Exit.inBlock, Exit.then]
 go_end0
 exact hfin.out
def dd (ds : List Ed) : Nat → List Ed
 | 0 => []
 | p + 1 => if p = 0 ∨ ds.getD p e0 ≠ ds.getD (p - 1) e0 then dd ds p ++ [ds.getD p e0] else dd ds p
theorem dd_yes {ds : List Ed} {p : Nat} (h : p = 0 ∨ ds.getD p e0 ≠ ds.getD (p - 1) e0) : dd ds (p + 1) = dd ds p ++ [ds.getD p e0] := by rw [dd, if_pos h]
theorem dd_no {ds : List Ed} {p : Nat} (h0 : p ≠ 0) (h : ds.getD p e0 = ds.getD (p - 1) e0) : dd ds (p + 1) = dd ds p := by
 rw [dd, if_neg]
 rintro (e | e)
 · exact h0 e
 · exact e h
theorem dd_all {ds : List Ed} : ∀ p, p ≤ ds.length → (∀ j, 0 < j → j < p → ds.getD j e0 ≠ ds.getD (j - 1) e0) → dd ds p = ds.take p := by
 intro p
 induction p with
 | zero => intro _ _; rfl
 | succ p ih =>
  intro hp h
  rw [dd_yes (by
   rcases Nat.eq_zero_or_pos p with h0 | h0
   · exact .inl h0
   · exact .inr (h p h0 (by omega))), ih (by omega) (fun j h1 h2 => h j h1 (by omega)), List.take_add_one, List.getElem?_eq_getElem (by omega), List.getD_eq_getElem?_getD, List.getElem?_eq_getElem (by omega)]
  rfl
theorem flatE_set : ∀ (C : List Ed) (k : Nat) (e : Ed), k < C.length → (((flatE C).set (k * 3) e.1).set (k * 3 + 1) e.2.1).set (k * 3 + 2) e.2.2 = flatE (C.set k e) := by
 intro C
 induction C with
 | nil => intro k e h; simp at h
 | cons c C ih =>
  intro k e h
  cases k with
  | zero => simp [flatE]
  | succ k =>
   have := ih k e (by simpa using h)
   rw [show (k + 1) * 3 = k * 3 + 1 + 1 + 1 by omega]
   simp only [flatE, List.set_cons_succ]
   rw [this]
theorem setCells_part {b : Nat} {T : TypeId} : ∀ (vs : List Value) (o : Nat) (w : World) (cur : Array Value), w.heap[b]? = some (.cells cur T (0, 0)) → ∃ cur' : Array Value, (w.setCells b o vs).heap[b]? = some (.cells cur' T (0, 0)) ∧ cur'.size = cur.size ∧ ∀ k, k < o → cur'[k]? = cur[k]? := by
 intro vs
 induction vs with
 | nil => intro o w cur h; exact ⟨cur, h, rfl, fun _ _ => rfl⟩
 | cons v vs ih =>
  intro o w cur h
  obtain ⟨c', h1, h2, h3⟩ := ih (o + 1) (w.setCell ⟨b, o, none⟩ v) (cur.setIfInBounds o v) (heap_setCell_same w b o cur _ _ h)
  refine ⟨c', h1, by rw [h2]; simp, fun k hk => ?_⟩
  rw [h3 k (by omega), Array.getElem?_setIfInBounds_ne (by omega)]
theorem setCells_other {b k : Nat} (hk : k ≠ b) : ∀ (vs : List Value) (o : Nat) (w : World), (w.setCells b o vs).heap[k]? = w.heap[k]? := by
 intro vs
 induction vs with
 | nil => intro o w; rfl
 | cons v vs ih =>
  intro o w
  show ((w.setCell ⟨b, o, none⟩ v).setCells b (o + 1) vs).heap[k]? = _
  rw [ih, Below.heap_setCell _ _ _ _ hk]
theorem setCells_same {b : Nat} : ∀ (vs : List Value) (o : Nat) (w : World), (w.setCells b o vs).os = w.os ∧ (w.setCells b o vs).tape = w.tape ∧ (w.setCells b o vs).output = w.output ∧ (w.setCells b o vs).heap.size = w.heap.size := by
 intro vs
 induction vs with
 | nil => intro o w; exact ⟨rfl, rfl, rfl, rfl⟩
 | cons v vs ih =>
  intro o w
  obtain ⟨h1, h2, h3, h4⟩ := ih (o + 1) (w.setCell ⟨b, o, none⟩ v)
  refine ⟨h1, h2, h3, h4.trans (by simp [World.setCell])⟩
theorem zeroEdges (n : Nat) : (Builtin.zeroCells #[.int .i64 0, .int .i64 0, .int .i64 0] n).toList = List.replicate (n * 3) (.int .i64 0) := by
 unfold Builtin.zeroCells
 apply List.ext_getElem?
 intro i
 simp only [Array.toList_map, Array.toList_range, List.getElem?_map]
 by_cases h : i < n * 3
 · have h3 : i % 3 < 3 := Nat.mod_lt _ (by omega)
   rw [show #[Value.int .i64 0, Value.int .i64 0, Value.int .i64 0].size = 3 from rfl, List.getElem?_range h, List.getElem?_replicate, if_pos h]
   have e : i % 3 = 0 ∨ i % 3 = 1 ∨ i % 3 = 2 := by omega
   rcases e with e | e | e <;> simp [e]
 · rw [List.getElem?_eq_none (by simpa using h), List.getElem?_eq_none (by simpa using h)]
   rfl
theorem clear_edges (w : World) (ty : TypeId) (b o n c : Nat) (hn : 0 < n) (hc : ∀ j, j < n * 3 → (w.cell? ⟨b, o + j, none⟩).isSome = true) (hf : ∀ j, j < n * 3 → w.frozen? ⟨b, o + j, none⟩ = false) :
 (Builtin.clear_ #[24] ty #[.slice (some ⟨b, o, none⟩) n c]).run Tryz.prog w = .ok (.tuple #[]) (w.setCells b o (List.replicate (n * 3) (.int .i64 0))) := by
 have hst := run_storeCells_cells (P := Tryz.prog) b o (List.replicate (n * 3) (.int .i64 0)) 0 w (by simpa using hc) (by simpa using hf) (by intro v hv'; rw [List.eq_of_mem_replicate hv']; rfl)
 simp only [Nat.add_zero] at hst
 obtain ⟨m, rfl⟩ : ∃ m, n = m + 1 := ⟨n - 1, by omega⟩
 have hz : (zeroValue 72).run Tryz.prog w = .ok (.agg #[.int .i64 0, .int .i64 0, .int .i64 0]) w := Tryz.zeroValue72 w
 have hzc := zeroEdges (m + 1)
 simp [Builtin.clear_, run_underlying Tryz.underlying24, hz, Value.cells, hzc, hst]
def CompRet (w : World) (base g cap : Nat) (es : List Ed) (e : Ending) (w' : World) : Prop :=
 e = .returned (.slice (some ⟨g, 0, none⟩) es.length cap) ∧ w.grownBy w' (some g) ∧ OwnsE w' base (.slice (some ⟨g, 0, none⟩) es.length cap) es
theorem grownBy_drewN (w : World) (m g : Nat) : w.grownBy (w.drewN m) (some g) := ⟨rfl, rfl, rfl, Nat.le_refl _, fun _ _ _ => rfl⟩
theorem comp_fin {w wr : World} {base g cap n k : Nat} {C es : List Ed} (hown : OwnsE wr base (.slice (some ⟨g, 0, none⟩) n cap) C) (hC : C.length = n) (hg : w.grownBy wr (some g)) (hk : k ≤ n) (hes : C.take k = es) (vs : List Value) :
 CompRet w base g cap es (.returned (.slice (some ⟨g, 0, none⟩) k cap)) (wr.setCells g (k * 3) vs) := by
 have hlen : es.length = k := by rw [← hes, List.length_take]; omega
 obtain ⟨h1, h2 | ⟨g', cap', cur, hv, hb, hh, hc1, hc2, hc3, hc4⟩⟩ := hown
 · cases h2.1
 · cases hv
   obtain ⟨cur', q1, q2, q3⟩ := setCells_part vs (k * 3) wr cur hh
   obtain ⟨s1, s2, s3, s4⟩ := setCells_same (b := g) vs (k * 3) wr
   refine ⟨by rw [hlen], ⟨s1.trans hg.os, s2.trans hg.tape, s3.trans hg.output, by rw [s4]; exact hg.size, fun j hj hne => ?_⟩, by rw [List.length_map, flatE_length], .inr ⟨g, cap, cur', by rw [hlen], hb, q1, by rw [hlen]; omega, hc2, by rw [q2]; exact hc3, ?_⟩⟩
   · rw [setCells_other (fun e => hne (by rw [e]))]; exact hg.block j hj hne
   · rw [hlen]
     have ht : (cur.toList.take (C.length * 3)).take (k * 3) = ((flatE C).map iv).take (k * 3) := by rw [hc4]
     rw [List.take_take, Nat.min_eq_left (by omega)] at ht
     have hf : ((flatE C).map iv).take (k * 3) = (flatE es).map iv := by
      rw [← List.map_take, ← hes]
      congr 1
      have : flatE C = flatE (C.take k) ++ flatE (C.drop k) := by rw [← flatE_append, List.take_append_drop]
      rw [this, List.take_append_of_le_length (by rw [flatE_length, List.length_take]; omega), List.take_of_length_le (by rw [flatE_length, List.length_take]; omega)]
     rw [← hf, ← ht]
     apply List.ext_getElem?
     intro i
     rw [List.getElem?_take, List.getElem?_take]
     split
     · rw [Array.getElem?_toList, Array.getElem?_toList]; exact q3 i (by assumption)
     · rfl
theorem OwnsE.at3 {w : World} {base g cap n : Nat} {C : List Ed} (h : OwnsE w base (.slice (some ⟨g, 0, none⟩) n cap) C) {i : Nat} (hi : i < C.length) :
 w.cell? ⟨g, i * 3, none⟩ = some (.int .i64 (C.getD i e0).1) ∧ w.cell? ⟨g, i * 3 + 1, none⟩ = some (.int .i64 (C.getD i e0).2.1) ∧ w.cell? ⟨g, i * 3 + 2, none⟩ = some (.int .i64 (C.getD i e0).2.2) := by
 have hn : n = C.length := by
  obtain ⟨_, h2 | ⟨g', cap', cur, hv, _⟩⟩ := h
  · cases h2.1
  · cases hv; rfl
 subst hn
 obtain ⟨h0, h1, h2⟩ := flatE_at C i hi
 have key : ∀ m z, m < C.length * 3 → (flatE C).getD m 0 = z → w.cell? ⟨g, m, none⟩ = some (.int .i64 z) := fun m z hm hz => by
  rw [World.ownsRow.cellAt h m hm, List.getElem?_map, ← hz, List.getD_eq_getElem?_getD]
  have : m < (flatE C).length := by rw [flatE_length]; exact hm
  rw [List.getElem?_eq_getElem this]
  rfl
 exact ⟨key _ _ (by omega) h0, key _ _ (by omega) h1, key _ _ (by omega) h2⟩
def CompSt (w wr : World) (base g cap : Nat) (ds : List Ed) (p k : Nat) : Prop :=
 ∃ C : List Ed, C.length = ds.length ∧ OwnsE wr base (.slice (some ⟨g, 0, none⟩) ds.length cap) C ∧ C.take k = dd ds p ∧ (∀ j, p - 1 ≤ j → j < ds.length → C.getD j e0 = ds.getD j e0) ∧ w.grownBy wr (some g)
theorem CompSt.put {w wr : World} {base g cap : Nat} {ds : List Ed} {p k : Nat} {f l t : Int} (h : CompSt w wr base g cap ds p k) (hp : p < ds.length) (hk : k + 1 ≤ p) (he : ds.getD p e0 = (f, l, t)) (hd : p = 0 ∨ ds.getD p e0 ≠ ds.getD (p - 1) e0) (m : Nat) :
 CompSt w ((((wr.drewN m).setCell ⟨g, k * 3, none⟩ (.int .i64 f)).setCell ⟨g, k * 3 + 1, none⟩ (.int .i64 l)).setCell ⟨g, k * 3 + 2, none⟩ (.int .i64 t)) base g cap ds (p + 1) (k + 1) := by
 obtain ⟨C, h1, h2, h3, h4, h5⟩ := h
 have h2' : OwnsE (wr.drewN m) base (.slice (some ⟨g, 0, none⟩) ds.length cap) C := h2
 have hst := OwnsS.put (OwnsS.put (OwnsS.put (h1 ▸ h2') (k * 3) f) (k * 3 + 1) l) (k * 3 + 2) t
 refine ⟨C.set k (f, l, t), by rw [List.length_set, h1], ?_, ?_, fun j hj hjl => ?_, ?_⟩
 · have hfs := flatE_set C k (f, l, t) (by omega)
   simp only at hfs
   rw [hfs] at hst
   unfold OwnsE
   rw [List.length_set]
   exact h1 ▸ hst
 · rw [dd_yes hd, he, ← h3, List.take_add_one, List.getElem?_set_self (by omega), List.take_set_of_le (Nat.le_refl _)]
   rfl
 · rw [List.getD_eq_getElem?_getD, List.getElem?_set_ne (by omega), ← List.getD_eq_getElem?_getD]
   exact h4 j (by omega) hjl
 · refine ⟨h5.os, h5.tape, h5.output, by simpa [World.setCell] using h5.size, fun j hj hne => ?_⟩
   have hjg : j ≠ g := fun e => hne (by rw [e])
   rw [Below.heap_setCell _ _ _ _ hjg, Below.heap_setCell _ _ _ _ hjg, Below.heap_setCell _ _ _ _ hjg]
   exact h5.block j hj hne
theorem CompSt.skip {w wr : World} {base g cap : Nat} {ds : List Ed} {p k : Nat} (h : CompSt w wr base g cap ds p k) (hp0 : p ≠ 0) (he : ds.getD p e0 = ds.getD (p - 1) e0) (m : Nat) : CompSt w (wr.drewN m) base g cap ds (p + 1) k := by
 obtain ⟨C, h1, h2, h3, h4, h5⟩ := h
 exact ⟨C, h1, h2, by rw [dd_no hp0 he]; exact h3, fun j hj hjl => h4 j (by omega) hjl, ⟨h5.os, h5.tape, h5.output, h5.size, h5.block⟩⟩
set_option maxRecDepth 100000 in
set_option maxHeartbeats 6400000 in
theorem compactE_any (w : World) (base g cap : Nat) (ds : List Ed) (hown : OwnsE w base (.slice (some ⟨g, 0, none⟩) ds.length cap) ds) (hl : ds.length ≤ 100000) :
 Calls Tryz.prog 192 #[.slice (some ⟨g, 0, none⟩) ds.length cap] w (CompRet w base g cap (dd ds ds.length)) := by
 have hcap : ds.length ≤ cap := by
  obtain ⟨_, h2 | ⟨g', cap', cur, hv, _, _, hc1, _⟩⟩ := hown
  · cases h2.1
  · cases hv; exact hc1
 obtain ⟨n, hn⟩ := exq ds.length
 have hdone : ∀ m, (∀ j, 0 < j → j < n → ds.getD j e0 ≠ ds.getD (j - 1) e0) → CompRet w base g cap (dd ds ds.length) (.returned (.slice (some ⟨g, 0, none⟩) n cap)) (w.drewN m) := fun m h => by
  have : dd ds ds.length = ds := by rw [dd_all ds.length (Nat.le_refl _) (by rw [← hn]; exact h), List.take_length]
  rw [this]
  exact ⟨by rw [hn], grownBy_drewN w m g, hown⟩
 have hst0 : ∀ m k, k < n → 0 < k → (∀ j, 0 < j → j < k → ds.getD j e0 ≠ ds.getD (j - 1) e0) → ds.getD k e0 = ds.getD (k - 1) e0 → CompSt w (w.drewN m) base g cap ds (k + 1) k := fun m k hk h0 h he =>
  ⟨ds, rfl, hown, by rw [dd_no (by omega) he, dd_all k (by omega) h], fun _ _ _ => rfl, grownBy_drewN w m g⟩
 rw [← hn] at hown hl hcap ⊢
 replace hdone := hidI hdone
 replace hst0 := hidI hst0
 by_cases hlt2 : n < 2
 · have hi2 : (n : Int) < 2 := by omega
   have hr := hdone.out 0 (fun j h1 h2 => by omega)
   rw [show w.drewN 0 = w from rfl] at hr
   rw [hn]
   replace hr := hidI hr
   replace hn := hidI hn
   replace hown := hidI hown
   go_enter Tryz.func192, Tryz.ntmps192
   rw [← hn.out]
   go_wp2
   go_ret
   rw [hn.out]
   rw [hn.out] at hr
   exact hr.out
 · have hi2 : ¬ (n : Int) < 2 := by omega
   obtain ⟨ES, hES⟩ := exq (dd ds ds.length)
   rw [show dd ds n = ES by rw [hES, hn]]
   replace hES := hidI hES
   replace hn := hidI hn
   replace hown := hidI hown
   go_enter Tryz.func192, Tryz.ntmps192
   go_wp2
   go_loopg [3, 4, 5] n (fun gg i x y wr => ∃ k m : Nat, k + gg = n + 1 ∧ 0 < k ∧ k ≤ n ∧ i = .int .i64 k ∧ Hid (∀ j, 0 < j → j < k → ds.getD j e0 ≠ ds.getD (j - 1) e0) ∧ Hid (wr = w.drewN m))
   case atStart => exact ⟨1, 0, by omega, by omega, by omega, rfl, hidI (fun j h1 h2 => by omega), hidI rfl⟩
   case round =>
    obtain ⟨k, m, hk, hk0, hkn, rfl, hp, hw⟩ := hrel
    have hw' := hw.out
    subst hw'
    by_cases hlt : k < n
    · have hki : (k : Int) < (n : Int) := by omega
      obtain ⟨k1, hk1⟩ : ∃ k1, k = k1 + 1 := ⟨k - 1, by omega⟩
      have hkw : IntKind.i64.wrap ((k : Int) - 1) = (k1 : Int) := by rw [IntWalk.i64_in _ (by omega)]; omega
      have hk1n : (k1 : Int) < (n : Int) := by omega
      have hown0 : OwnsE w base (.slice (some ⟨g, 0, none⟩) n cap) ds := hown.out
      obtain ⟨c0, c1, c2⟩ := hown0.at3 (i := k) (by have := hn.out; omega)
      obtain ⟨d0, d1, d2⟩ := hown0.at3 (i := k1) (by have := hn.out; omega)
      have hkk : k - 1 = k1 := by omega
      obtain ⟨f, l, t, he1⟩ : ∃ f l t, ds.getD k e0 = (f, l, t) := ⟨_, _, _, rfl⟩
      obtain ⟨f', l', t', he2⟩ : ∃ f l t, ds.getD k1 e0 = (f, l, t) := ⟨_, _, _, rfl⟩
      rw [he1] at c0 c1 c2
      rw [he2] at d0 d1 d2
      simp only at c0 c1 c2 d0 d1 d2
      have hne : (f, l, t) ≠ (f', l', t') → ∀ j, 0 < j → j < k + 1 → ds.getD j e0 ≠ ds.getD (j - 1) e0 := fun hq j h1 h2 => by
       by_cases hj : j = k
       · subst hj; rw [hkk, he1, he2]; exact hq
       · exact hp.out j h1 (by omega)
      have hyes : (f, l, t) = (f', l', t') → ∀ m, CompSt w (w.drewN m) base g cap ds (k + 1) k := fun hq m => hst0.out m k (by have := hn.out; omega) (by omega) hp.out (by rw [hkk, he1, he2]; exact hq)
      replace hne := hidI hne
      replace hyes := hidI hyes
      replace he1 := hidI he1
      replace he2 := hidI he2
      replace hk1 := hidI hk1
      replace hkk := hidI hkk
      replace hk := hidI hk
      replace hown0 := hidI hown0
      by_cases q1 : f = f'
      · by_cases q2 : l = l'
        · by_cases q4 : t = t'
          · have hS := hidI (hyes.out (by rw [q1, q2, q4]))
            subst q1 q2 q4
            go_wp2
            go_quiet (fail)
            go_wp2
            have hSt := hidI (hS.out (m + nq))
            obtain ⟨wo, hwo⟩ := exq (w.drewN (m + nq))
            rw [← hwo] at hSt ⊢
            obtain ⟨N, hN⟩ := exq (n - k)
            obtain ⟨M, hM⟩ := exq (cap - k)
            rw [← hN, ← hM]
            have hNk : N + k = n := by omega
            replace hN := hidI hN
            replace hM := hidI hM
            replace hwo := hidI hwo
            clear c0 c1 c2 d0 d1 d2
            go_loopg [3, 5] (n - (k + 1)) (fun gg i x wr => ∃ q kk : Nat, k + q + gg = n ∧ 0 < q ∧ i = .int .i64 kk ∧ x = .int .i64 q ∧ kk + 1 ≤ k + q ∧ Hid (CompSt w wr base g cap ds (k + q) kk))
            case atStart => exact ⟨1, k, by omega, by omega, rfl, rfl, by omega, hSt⟩
            case round =>
             clear hSt
             obtain ⟨q, kk, hq, hq0, rfl, rfl, hkq, hCS⟩ := hrel
             obtain ⟨C, hC1, hC2, hC3, hC4, hC5⟩ := hCS.out
             rw [← hn.out] at hC1 hC2
             have hC9 := hC2
             rw [← hC1] at hC9
             by_cases hlq : k + q < n
             · have hqi : (q : Int) < (N : Int) := by omega
               obtain ⟨q1, hq1⟩ : ∃ q1, q = q1 + 1 := ⟨q - 1, by omega⟩
               have hqw : IntKind.i64.wrap ((q : Int) - 1) = (q1 : Int) := by rw [IntWalk.i64_in _ (by omega)]; omega
               have hq1i : (q1 : Int) < (N : Int) := by omega
               have hkki : (kk : Int) < (n : Int) := by omega
               obtain ⟨c0, c1, c2⟩ := hC2.at3 (i := k + q) (by omega)
               obtain ⟨d0, d1, d2⟩ := hC2.at3 (i := k + q1) (by omega)
               obtain ⟨y0, y1, y2⟩ := hC2.at3 (i := kk) (by omega)
               rw [hC4 (k + q) (by omega) (by have := hn.out; omega)] at c0 c1 c2
               rw [hC4 (k + q1) (by omega) (by have := hn.out; omega)] at d0 d1 d2
               rw [Nat.add_mul] at c0 c1 c2 d0 d1 d2
               have z0 := World.ownsRow.frozenAt hC9 (kk * 3)
               have z1 := World.ownsRow.frozenAt hC9 (kk * 3 + 1)
               have z2 := World.ownsRow.frozenAt hC9 (kk * 3 + 2)
               obtain ⟨f2, l2, t2, ge1⟩ : ∃ f l t, ds.getD (k + q) e0 = (f, l, t) := ⟨_, _, _, rfl⟩
               obtain ⟨f3, l3, t3, ge2⟩ : ∃ f l t, ds.getD (k + q1) e0 = (f, l, t) := ⟨_, _, _, rfl⟩
               rw [ge1] at c0 c1 c2
               rw [ge2] at d0 d1 d2
               simp only at c0 c1 c2 d0 d1 d2
               have hkq1 : k + q - 1 = k + q1 := by omega
               have hput : (f2, l2, t2) ≠ (f3, l3, t3) → ∀ m, CompSt w ((((wr.drewN m).setCell ⟨g, kk * 3, none⟩ (.int .i64 f2)).setCell ⟨g, kk * 3 + 1, none⟩ (.int .i64 l2)).setCell ⟨g, kk * 3 + 2, none⟩ (.int .i64 t2)) base g cap ds (k + q + 1) (kk + 1) := fun h m =>
                hCS.out.put (by have := hn.out; omega) hkq ge1 (.inr (by rw [hkq1, ge1, ge2]; exact h)) m
               have hskip : (f2, l2, t2) = (f3, l3, t3) → ∀ m, CompSt w (wr.drewN m) base g cap ds (k + q + 1) kk := fun h m =>
                hCS.out.skip (by omega) (by rw [hkq1, ge1, ge2]; exact h) m
               generalize (C.getD kk e0).1 = v0 at y0
               generalize (C.getD kk e0).2.1 = v1 at y1
               generalize (C.getD kk e0).2.2 = v2 at y2
               replace hput := hidI hput
               replace hskip := hidI hskip
               replace ge1 := hidI ge1
               replace ge2 := hidI ge2
               replace hq1 := hidI hq1
               replace hkq1 := hidI hkq1
               replace hq := hidI hq
               clear hC9 hC1 hC2 hC3 hC4 hC5 hCS
               by_cases q1_ : f2 = f3
               · by_cases q2_ : l2 = l3
                 · by_cases q4_ : t2 = t3
                   · have hS2 := hidI (hskip.out (by rw [q1_, q2_, q4_]))
                     subst q1_ q2_ q4_
                     go_wp2
                     go_quiet (fail)
                     go_wp2
                     go_roundg (n - (k + q + 1))
                     case rel => exact ⟨q + 1, kk, by have := hq.out; omega, by omega, rfl, by go_num, by omega, hidI (hS2.out _)⟩
                     case measure => have := hq.out; omega
                   · have hnr : (f2, l2, t2) ≠ (f3, l3, t3) := by intro hh; simp at hh; exact q4_ hh.2.2
                     have hnq := hidI (hput.out hnr)
                     clear hnr
                     have u4 : (t2 != t3) = true := by rw [bne_iff_ne]; exact q4_
                     have u5 : (t2 == t3) = false := by rw [beq_eq_false_iff_ne]; exact q4_
                     subst q1_ q2_
                     replace q4_ := hidI q4_
                     go_wp2
                     go_quiet (fail)
                     go_wp2
                     go_roundg (n - (k + q + 1))
                     case rel => exact ⟨q + 1, kk + 1, by have := hq.out; omega, by omega, by go_num, by go_num, by omega, hidI (hnq.out _)⟩
                     case measure => have := hq.out; omega
                 · have hnr : (f2, l2, t2) ≠ (f3, l3, t3) := by intro hh; simp at hh; exact q2_ hh.2.1
                   have hnq := hidI (hput.out hnr)
                   clear hnr
                   have u4 : (l2 != l3) = true := by rw [bne_iff_ne]; exact q2_
                   have u5 : (l2 == l3) = false := by rw [beq_eq_false_iff_ne]; exact q2_
                   subst q1_
                   replace q2_ := hidI q2_
                   go_wp2
                   go_quiet (fail)
                   go_wp2
                   go_roundg (n - (k + q + 1))
                   case rel => exact ⟨q + 1, kk + 1, by have := hq.out; omega, by omega, by go_num, by go_num, by omega, hidI (hnq.out _)⟩
                   case measure => have := hq.out; omega
               · have hnr : (f2, l2, t2) ≠ (f3, l3, t3) := by intro hh; simp at hh; exact q1_ hh.1
                 have hnq := hidI (hput.out hnr)
                 clear hnr
                 have u4 : (f2 != f3) = true := by rw [bne_iff_ne]; exact q1_
                 have u5 : (f2 == f3) = false := by rw [beq_eq_false_iff_ne]; exact q1_
                 replace q1_ := hidI q1_
                 go_wp2
                 go_quiet (fail)
                 go_wp2
                 go_roundg (n - (k + q + 1))
                 case rel => exact ⟨q + 1, kk + 1, by have := hq.out; omega, by omega, by go_num, by go_num, by omega, hidI (hnq.out _)⟩
                 case measure => have := hq.out; omega
             · have hqi : ¬ (q : Int) < (N : Int) := by omega
               have hkn2 : kk < n := by omega
               have hcl : ∀ ty, (Builtin.clear_ #[24] ty #[.slice (some ⟨g, kk * 3, none⟩) (n - kk) (cap - kk)]).run Tryz.prog wr = .ok (.tuple #[]) (wr.setCells g (kk * 3) (List.replicate ((n - kk) * 3) (.int .i64 0))) := fun ty =>
                clear_edges wr ty g (kk * 3) (n - kk) (cap - kk) (by omega) (fun j hj => by
                 rw [World.ownsRow.cellAt hC9 (kk * 3 + j) (by omega), List.getElem?_eq_getElem (by rw [List.length_map, flatE_length]; omega)]; rfl) (fun j _ => World.ownsRow.frozenAt hC9 (kk * 3 + j))
               have hfin := comp_fin (hC1 ▸ hC2) rfl hC5 (by omega) (show C.take kk = ES by rw [hC3, hES.out]; congr 1; have := hn.out; omega) (List.replicate ((n - kk) * 3) (.int .i64 0))
               replace hfin := hidI hfin
               replace hq := hidI hq
               clear hC9 hC1 hC2 hC3 hC4 hC5 hCS
               go_wp2
               go_ret
               exact hfin.out
          · have hnx := hidI (hne.out (by intro hq; simp at hq; exact q4 hq.2.2))
            have u4 : (t == t') = false := by rw [beq_eq_false_iff_ne]; exact q4
            subst q1 q2
            go_wp2
            go_quiet (fail)
            go_wp2
            go_roundg (n - k)
            case rel => exact ⟨k + 1, m + nq, by have := hk.out; omega, by omega, by omega, by go_num, hnx, hidI rfl⟩
            case measure => have := hk.out; omega
        · have hnx := hidI (hne.out (by intro hq; simp at hq; exact q2 hq.2.1))
          have u2 : (l == l') = false := by rw [beq_eq_false_iff_ne]; exact q2
          subst q1
          go_wp2
          go_quiet (fail)
          go_wp2
          go_roundg (n - k)
          case rel => exact ⟨k + 1, m + nq, by have := hk.out; omega, by omega, by omega, by go_num, hnx, hidI rfl⟩
          case measure => have := hk.out; omega
      · have hnx := hidI (hne.out (by intro hq; simp at hq; exact q1 hq.1))
        have u1 : (f == f') = false := by rw [beq_eq_false_iff_ne]; exact q1
        go_wp2
        go_quiet (fail)
        go_wp2
        go_roundg (n - k)
        case rel => exact ⟨k + 1, m + nq, by have := hk.out; omega, by omega, by omega, by go_num, hnx, hidI rfl⟩
        case measure => have := hk.out; omega
    · obtain rfl : k = n := by omega
      have hki : ¬ (k : Int) < (k : Int) := by omega
      have hr := hdone.out m hp.out
      rw [← hES.out] at hr
      replace hr := hidI hr
      replace hk := hidI hk
      go_wp2
      go_ret
      exact hr.out
abbrev AscE (es : List Ed) : Prop := es.Pairwise (fun a b => cmpE a b < 0)
theorem asc_of_gr {r s : Int} {es : List Ed} (h : isGr r s es = true) : AscE es := by
 obtain ⟨hp, _⟩ := isGr_iff.1 h
 have hstep : ∀ i, 0 < i → i < es.length → cmpE (es.getD (i - 1) e0) (es.getD i e0) < 0 := fun i h0 hi => by
  have := hp i hi
  unfold placeOk at this
  simp only [Bool.and_eq_true, Bool.or_eq_true, decide_eq_true_eq] at this
  rcases this.2 with h | h
  · omega
  · exact h
 have hfar : ∀ d i, i + d + 1 < es.length → cmpE (es.getD i e0) (es.getD (i + d + 1) e0) < 0 := by
  intro d
  induction d with
  | zero => intro i hi; exact hstep (i + 1) (by omega) hi
  | succ d ih =>
   intro i hi
   exact cmpE_trans (ih i (by omega)) (hstep (i + (d + 1) + 1) (by omega) hi)
 unfold AscE
 rw [List.pairwise_iff_getElem]
 intro i j hi hj hij
 have := hfar (j - i - 1) i (by omega)
 rw [show i + (j - i - 1) + 1 = j by omega, List.getD_eq_getElem?_getD, List.getD_eq_getElem?_getD, List.getElem?_eq_getElem hi, List.getElem?_eq_getElem hj] at this
 exact this
theorem putE_mem {e x : Ed} : ∀ {es : List Ed}, x ∈ putE e es ↔ x = e ∨ x ∈ es := by
 intro es
 induction es with
 | nil => simp [putE]
 | cons y ys ih =>
  rcases cmpE_cases e y with c | c | c
  · rw [putE_lt ys (by omega)]; simp
  · rw [putE_eq ys c]
    have := cmpE_zero c
    subst this
    simp
  · rw [putE_gt ys (by omega), List.mem_cons, ih, List.mem_cons]
    constructor
    · rintro (h | h | h)
      · exact .inr (.inl h)
      · exact .inl h
      · exact .inr (.inr h)
    · rintro (h | h | h)
      · exact .inr (.inl h)
      · exact .inl h
      · exact .inr (.inr h)
theorem putE_asc (e : Ed) : ∀ {es : List Ed}, AscE es → AscE (putE e es) := by
 intro es
 induction es with
 | nil => intro _; exact List.pairwise_singleton _ _
 | cons y ys ih =>
  intro h
  have hp := List.pairwise_cons.1 h
  rcases cmpE_cases e y with c | c | c
  · rw [putE_lt ys (by omega)]
    refine List.pairwise_cons.2 ⟨fun z hz => ?_, h⟩
    rcases List.mem_cons.1 hz with hz | hz
    · rw [hz]; omega
    · exact cmpE_trans (by omega : cmpE e y < 0) (hp.1 z hz)
  · rw [putE_eq ys c]; exact h
  · rw [putE_gt ys (by omega)]
    refine List.pairwise_cons.2 ⟨fun z hz => ?_, ih hp.2⟩
    rcases putE_mem.1 hz with hz | hz
    · rw [hz]; have := cmpE_neg e y; omega
    · exact hp.1 z hz
def putAll (es L : List Ed) : List Ed := L.foldl (fun acc e => putE e acc) es
theorem putAll_snoc (es L : List Ed) (e : Ed) : putAll es (L ++ [e]) = putE e (putAll es L) := by unfold putAll; rw [List.foldl_append]; rfl
theorem putAll_spec : ∀ (L es : List Ed), AscE es → AscE (putAll es L) ∧ ∀ x, x ∈ putAll es L ↔ x ∈ es ∨ x ∈ L := by
 intro L
 induction L with
 | nil => intro es h; exact ⟨h, fun x => by simp [putAll]⟩
 | cons e L ih =>
  intro es h
  obtain ⟨h1, h2⟩ := ih (putE e es) (putE_asc e h)
  refine ⟨h1, fun x => ?_⟩
  show x ∈ putAll (putE e es) L ↔ _
  rw [h2, putE_mem, List.mem_cons]
  constructor
  · rintro ((h | h) | h)
    · exact .inr (.inl h)
    · exact .inl h
    · exact .inr (.inr h)
  · rintro (h | h | h)
    · exact .inl (.inr h)
    · exact .inl (.inl h)
    · exact .inr h
theorem putAll_length (L : List Ed) : ∀ es, (putAll es L).length ≤ es.length + L.length := by
 induction L with
 | nil => intro es; simp [putAll]
 | cons e L ih =>
  intro es
  have h1 := ih (putE e es)
  have h2 := putE_length e es
  show (putAll (putE e es) L).length ≤ _
  rw [List.length_cons]
  omega
theorem ascE_ext : ∀ {a b : List Ed}, AscE a → AscE b → (∀ x, x ∈ a ↔ x ∈ b) → a = b := by
 intro a
 induction a with
 | nil =>
  intro b _ _ h
  cases b with
  | nil => rfl
  | cons y ys => exact absurd ((h y).2 List.mem_cons_self) (by simp)
 | cons x xs ih =>
  intro b ha hb h
  cases b with
  | nil => exact absurd ((h x).1 List.mem_cons_self) (by simp)
  | cons y ys =>
   have hxa := List.pairwise_cons.1 ha
   have hyb := List.pairwise_cons.1 hb
   have hxy : x = y := by
    rcases List.mem_cons.1 ((h x).1 List.mem_cons_self) with e | e
    · exact e
    · rcases List.mem_cons.1 ((h y).2 List.mem_cons_self) with e2 | e2
      · exact e2.symm
      · have h1 := hyb.1 x e
        have h2 := hxa.1 y e2
        have := cmpE_neg x y
        omega
   subst hxy
   congr 1
   refine ih hxa.2 hyb.2 fun z => ⟨fun hz => ?_, fun hz => ?_⟩
   · rcases List.mem_cons.1 ((h z).1 (List.mem_cons_of_mem _ hz)) with e | e
     · subst e; have := hxa.1 z hz; rw [cmpE_self] at this; omega
     · exact e
   · rcases List.mem_cons.1 ((h z).2 (List.mem_cons_of_mem _ hz)) with e | e
     · subst e; have := hyb.1 z hz; rw [cmpE_self] at this; omega
     · exact e
theorem getE_el {es : List Ed} {i : Nat} (h : i < es.length) : es.getD i e0 = es[i] := by rw [List.getD_eq_getElem?_getD, List.getElem?_eq_getElem h]; rfl
theorem dd_spec {ds : List Ed} (hs : ds.Pairwise (fun a b => ¬ cmpE b a < 0)) : ∀ p, p ≤ ds.length → AscE (dd ds p) ∧ (∀ x, x ∈ dd ds p ↔ ∃ i, i < p ∧ x = ds.getD i e0) ∧ (0 < p → ∀ x ∈ dd ds p, x = ds.getD (p - 1) e0 ∨ cmpE x (ds.getD (p - 1) e0) < 0) := by
 intro p
 induction p with
 | zero => intro _; exact ⟨List.Pairwise.nil, fun x => by simp [dd], fun h => by omega⟩
 | succ p ih =>
  intro hp
  obtain ⟨h1, h2, h3⟩ := ih (by omega)
  by_cases hd : p = 0 ∨ ds.getD p e0 ≠ ds.getD (p - 1) e0
  · rw [dd_yes hd]
    have hlt : ∀ x ∈ dd ds p, cmpE x (ds.getD p e0) < 0 := fun x hx => by
     rcases Nat.eq_zero_or_pos p with h0 | h0
     · subst h0; simp [dd] at hx
     · have hne : ds.getD p e0 ≠ ds.getD (p - 1) e0 := by
        rcases hd with h | h
        · omega
        · exact h
       have hle : ¬ cmpE (ds.getD p e0) (ds.getD (p - 1) e0) < 0 := by
        rw [getE_el (show p < ds.length by omega), getE_el (show p - 1 < ds.length by omega)]
        exact (List.pairwise_iff_getElem.1 hs) (p - 1) p (by omega) (by omega) (by omega)
       have hn := cmpE_neg (ds.getD (p - 1) e0) (ds.getD p e0)
       have hlt : cmpE (ds.getD (p - 1) e0) (ds.getD p e0) < 0 := by
        rcases cmpE_cases (ds.getD (p - 1) e0) (ds.getD p e0) with c | c | c
        · omega
        · exact absurd (cmpE_zero c).symm hne
        · omega
       rcases h3 h0 x hx with e | e
       · rw [e]; exact hlt
       · exact cmpE_trans e hlt
    refine ⟨?_, fun x => ?_, fun _ x hx => ?_⟩
    · unfold AscE
      rw [List.pairwise_append]
      refine ⟨h1, List.pairwise_singleton _ _, fun a ha b hb => ?_⟩
      rw [List.mem_singleton] at hb
      rw [hb]; exact hlt a ha
    · rw [List.mem_append, h2, List.mem_singleton]
      constructor
      · rintro (⟨i, hi, e⟩ | e)
        · exact ⟨i, by omega, e⟩
        · exact ⟨p, by omega, e⟩
      · rintro ⟨i, hi, e⟩
        by_cases hip : i = p
        · subst hip; exact .inr e
        · exact .inl ⟨i, by omega, e⟩
    · rw [Nat.add_sub_cancel]
      rcases List.mem_append.1 hx with h | h
      · exact .inr (hlt x h)
      · exact .inl (List.mem_singleton.1 h)
  · have hp0 : p ≠ 0 := fun e => hd (.inl e)
    have he : ds.getD p e0 = ds.getD (p - 1) e0 := by
     by_cases e : ds.getD p e0 = ds.getD (p - 1) e0
     · exact e
     · exact absurd (.inr e) hd
    rw [dd_no hp0 he]
    refine ⟨h1, fun x => ?_, fun _ x hx => ?_⟩
    · rw [h2]
      constructor
      · rintro ⟨i, hi, e⟩; exact ⟨i, by omega, e⟩
      · rintro ⟨i, hi, e⟩
        by_cases hip : i = p
        · subst hip; exact ⟨i - 1, by omega, by rw [e, he]⟩
        · exact ⟨i, by omega, e⟩
    · rw [Nat.add_sub_cancel, he]
      exact h3 (by omega) x hx
theorem sort_put {es L ds : List Ed} (ha : AscE es) (hp : ds.Perm (es ++ L)) (hs : ds.Pairwise (fun a b => ¬ cmpE b a < 0)) : dd ds ds.length = putAll es L := by
 obtain ⟨h1, h2, _⟩ := dd_spec hs ds.length (Nat.le_refl _)
 obtain ⟨g1, g2⟩ := putAll_spec L es ha
 refine ascE_ext h1 g1 fun x => ?_
 rw [h2, g2, ← List.mem_append, ← hp.mem_iff]
 constructor
 · rintro ⟨i, hi, e⟩
   rw [e, getE_el hi]; exact List.getElem_mem hi
 · intro hx
   obtain ⟨i, hi, e⟩ := List.getElem_of_mem hx
   exact ⟨i, hi, by rw [getE_el hi, e]⟩
end Go.Proofs.YtpjlamnjiilgbaaGreat
