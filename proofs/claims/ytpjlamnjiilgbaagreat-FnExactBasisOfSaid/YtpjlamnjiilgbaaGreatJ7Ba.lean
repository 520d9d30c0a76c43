import Derived.Maps.AppendAt
import Derived.Deep.Cut
import Derived.Lib.SliceRun
import Derived.Deep.LoopGhost
import Derived.Test.YtpjlamnjiilgbaaGreatJ6Ba
import Derived.Test.YtpjlamnjiilgbaaGreatJ1Ba
import Derived.Test.YtpjlamnjiilgbaaGreatJ5Ba
import Derived.Test.YtpjlamnjiilgbaaGreatJ0Ba
namespace Go.Proofs.YtpjlamnjiilgbaaGreat
open Go.RowKit
set_option linter.unusedVariables false
set_option linter.unusedSimpArgs false
def LwEdgesO (w : World) (es : List Ed) (e : Ending) (w' : World) : Prop := ∃ v, e = .returned v ∧ OwnsE w' w.heap.size v es ∧ Below w.heap.size w w'
theorem OwnsS.other {T : TypeId} {sz n base : Nat} {w w' : World} {v : Value} {zs : List Int} (h : OwnsS T sz w base v n zs) (hb : ∀ k, v.ownBlock = some k → w'.heap[k]? = w.heap[k]?) : OwnsS T sz w' base v n zs := by
 obtain ⟨h1, h2 | ⟨g, cap, cur, rfl, hg, hh, hr⟩⟩ := h
 · exact ⟨h1, .inl h2⟩
 · exact ⟨h1, .inr ⟨g, cap, cur, rfl, hg, (hb g rfl).trans hh, hr⟩⟩
set_option maxHeartbeats 800000 in
theorem gpCloneO (w : World) (v : Value) (es : List Ed) (h : ReadE w.heap.size w v es) (hl : es.length ≤ 1000000000) :
 Calls Tryz.prog 91 #[v] w (LwEdgesO w es) := by
 have hread := h
 obtain ⟨hzl, _, a, cap, rfl, ⟨hnil, _⟩, hr⟩ := h
 obtain ⟨n, hn⟩ := exq es.length
 rcases a with _ | ad
 · have hz : es = [] := by
    rcases hr with h0 | ⟨b, off, ha, _⟩
    · exact List.eq_nil_of_length_eq_zero h0
    · cases ha
   have hc0 := hnil rfl
   subst hc0
   subst hz
   have hr : LwEdgesO w [] (.returned (.slice none 0 0)) w := ⟨_, rfl, OwnsS.nil _ _, Below.refl _ _⟩
   replace hr := hidI hr
   have heq := fun W : World => Lib.run_eql_slice_nil (P := Tryz.prog) W 24 72 none 0 0 0 0 Tryz.underlying24
   clear hread hn hnil
   go_enter Tryz.func91, Tryz.ntmps91
   go_wp2
   go_ret
   exact hr.out
 · have hlit : OwnsE (w.alloc (.cells #[] 72)) w.heap.size (.slice (some ⟨w.heap.size, 0, none⟩) 0 0) [] := OwnsE.litE w
   have hb0 := (Below.refl w.heap.size w).alloc (Nat.le_refl _) (.cells #[] 72)
   have hx := hread.below hb0
   have hl3 : ([] : List Ed).length + es.length ≤ 1000000000 := by simp; omega
   have hl4 : es.length ≤ 1000000000000 := by omega
   replace hlit := hidI hlit
   replace hx := hidI hx
   replace hl4 := hidI hl4
   rw [← hn]
   replace hl3 := hidI hl3
   have hx' : Hid (ReadE w.heap.size (w.alloc (.cells #[] 72)) (.slice (some ad) n cap) es) := hidI (by rw [hn]; exact hx.out)
   clear hx
   replace hn := hidI hn
   replace hread := hidI hread
   clear hr hnil hzl
   have heq := fun W : World => Lib.run_eql_slice_nil (P := Tryz.prog) W 24 72 (some ad) n cap 0 0 Tryz.underlying24
   go_enter Tryz.func91, Tryz.ntmps91
   go_wp2_with (at_builtin; go_must (refine wpList_pushAllE rfl _ _ rfl w.heap.size _ _ [] es w.heap.size rfl rfl (by exact hlit.out) (by exact hx'.out) hl3.out (by simp) ?_))
   intro v1 w1 hown1 hb1'
   have hb1 := hb0.trans hb1'
   have hr : LwEdgesO w es (.returned v1) w1 := ⟨_, rfl, by simpa using hown1, hb1⟩
   replace hr := hidI hr
   clear hown1 hb1' hlit hx' hb0 hb1
   go_wp2
   go_ret
   exact hr.out
def eB (u l v : Int) : Ed := if l < 0 then (v, -l, u) else (u, l, v)
set_option maxHeartbeats 800000 in
theorem between_edge (w : World) (u l v : Int) (hl : -9223372036854775807 ≤ l) (hl2 : l ≤ 9223372036854775807) :
 Calls Tryz.prog 125 #[.int .i64 u, .int .i64 l, .int .i64 v] w fun x w' => x = .returned (.agg #[.int .i64 (eB u l v).1, .int .i64 (eB u l v).2.1, .int .i64 (eB u l v).2.2]) ∧ Below w.heap.size w w' := by
 obtain ⟨w1, hw1⟩ := exq (w.alloc (.cells #[.int .i64 0, .int .i64 0, .int .i64 0] 72))
 have hb1 : Below w.heap.size w w1 := by rw [hw1]; exact (Below.refl _ _).alloc (Nat.le_refl _) _
 have hk1 := heap_alloc_new w (.cells #[.int .i64 0, .int .i64 0, .int .i64 0] 72)
 rw [← hw1] at hk1
 obtain ⟨c0, c1, c2⟩ := cell3 hk1
 have f1 := fun j => frozen_of_row w1 w.heap.size j _ _ hk1
 simp at c0 c1 c2
 replace hw1 := hidI hw1
 replace hk1 := hidI hk1
 by_cases h : l < 0
 · have he : eB u l v = (v, -l, u) := if_pos h
   have hq : wrap64 (-l) = -l := by unfold wrap64; omega
   rw [he]
   replace he := hidI he
   go_enter Tryz.func125, Tryz.ntmps125
   go_upto_region 1 with fail
   rw [← hw1.out]
   go_wp2
   (try simp only [Exit.inBlock, Exit.then])
   refine ret_cell rfl (g := w.heap.size) rfl (set3 hk1.out _ _ _) Tryz.underlying72 sizeEdge ?_
   refine ⟨?_, below_set3 hb1 (Nat.le_refl _)⟩
   first | rfl | (try simp only [hq]; try rfl)
 · have he : eB u l v = (u, l, v) := if_neg h
   rw [he]
   replace he := hidI he
   go_enter Tryz.func125, Tryz.ntmps125
   go_upto_region 1 with fail
   rw [← hw1.out]
   go_wp2
   (try simp only [Exit.inBlock, Exit.then])
   refine ret_cell rfl (g := w.heap.size) rfl (set3 hk1.out _ _ _) Tryz.underlying72 sizeEdge ?_
   exact ⟨rfl, below_set3 hb1 (Nat.le_refl _)⟩
theorem step_pushE_at {w0 : World} {o : Oper} {a : Act} {K : Act → World → Prop} {Q : Exit → Act → World → Prop} (s x : Operand)
 (ho : o.op = .call { callee := .builtin .append, args := #[s, x], argTypes := #[24, 24] }) (base : Nat) (v : Value) (es : List Ed) (e : Ed) (blk : Nat)
 (hs : a.eval s = v) (hx : a.eval x = .slice (some ⟨blk, 0, none⟩) 1 1) (hown : OwnsE w0 base v es) (hc : w0.heap[blk]? = some (.cells #[.int .i64 e.1, .int .i64 e.2.1, .int .i64 e.2.2] 72 (0, 0))) (hl : es.length ≤ 1000000000) (hbase : base ≤ w0.heap.size)
 (h : ∀ v' w', OwnsE w' base v' (es ++ [e]) → w0.grownBy w' v.ownBlock → (v'.ownBlock = v.ownBlock ∨ v'.ownBlock = some w0.heap.size) → K (a.put o.dst v') w') :
 Oper.wp Tryz.prog o a w0 K Q := by
 obtain ⟨i0, hi, hz0, hz1, hz2⟩ := info_parts infoEdge
 obtain ⟨v', w', hrun, h2, h3, h4, h5⟩ := run_append_own_at (P := Tryz.prog) w0 base 24 o.type 72 i0 _ 3 24 Tryz.underlying24 hi hz0 hz1 hz2 rfl (by decide) v es.length ((flatE es).map iv) hown ⟨blk, 0, none⟩ 1 1 [iv e.1, iv e.2.1, iv e.2.2] rfl (by
  intro j u hj
  rw [addr_plus, Nat.zero_add]
  have c := cell_of_heap hc j
  match j, hj with
  | 0, hj => simp at hj; subst hj; simpa [iv] using c
  | 1, hj => simp at hj; subst hj; simpa [iv] using c
  | 2, hj => simp at hj; subst hj; simpa [iv] using c) (by
  intro u hu
  simp at hu
  rcases hu with rfl | rfl | rfl <;> rfl) (by unfold maxLen; omega) (by omega) hbase
 unfold Oper.wp execOp
 simp only [ho, resolve, invoke, builtin, Sem.run_bind, Sem.run_pure, Result.andThen_ok, List.map_toArray, List.map_cons, List.map_nil, hs, hx, hrun]
 exact h v' w' (by unfold OwnsE OwnsS; rw [flatE_append, List.length_append, List.map_append]; simpa [flatE] using h2) h3 h5
def KeptBut (B G : Nat) (w w' : World) : Prop := w'.os = w.os ∧ w'.tape = w.tape ∧ w'.output = w.output ∧ w.heap.size ≤ w'.heap.size ∧ ∀ k, k < B → k ≠ G → w'.heap[k]? = w.heap[k]?
theorem KeptBut.refl (B G : Nat) (w : World) : KeptBut B G w w := ⟨rfl, rfl, rfl, Nat.le_refl _, fun _ _ _ => rfl⟩
theorem KeptBut.trans {B G : Nat} {a b c : World} (h : KeptBut B G a b) (k : KeptBut B G b c) : KeptBut B G a c :=
 ⟨k.1.trans h.1, k.2.1.trans h.2.1, k.2.2.1.trans h.2.2.1, Nat.le_trans h.2.2.2.1 k.2.2.2.1, fun i hi hne => (k.2.2.2.2 i hi hne).trans (h.2.2.2.2 i hi hne)⟩
theorem KeptBut.below {B G : Nat} {a b : World} (h : KeptBut B G a b) (hG : G ≤ B) : Below G a b := ⟨h.1, h.2.1, h.2.2.1, h.2.2.2.1, fun k hk => h.2.2.2.2 k (by omega) (by omega)⟩
def dd (ds : List Ed) : Nat → List Ed
 | 0 => []
 | p + 1 => if p = 0 ∨ ds.getD p e0 ≠ ds.getD (p - 1) e0 then dd ds p ++ [ds.getD p e0] else dd ds p
theorem dd_yes {ds : List Ed} {p : Nat} (h : p = 0 ∨ ds.getD p e0 ≠ ds.getD (p - 1) e0) : dd ds (p + 1) = dd ds p ++ [ds.getD p e0] := by rw [dd, if_pos h]
theorem dd_no {ds : List Ed} {p : Nat} (h0 : p ≠ 0) (h : ds.getD p e0 = ds.getD (p - 1) e0) : dd ds (p + 1) = dd ds p := by
 rw [dd, if_neg]
 rintro (e | e)
 · exact h0 e
 · exact e h
theorem flatE_set : ∀ (C : List Ed) (k : Nat) (e : Ed), k < C.length → (((flatE C).set (k * 3) e.1).set (k * 3 + 1) e.2.1).set (k * 3 + 2) e.2.2 = flatE (C.set k e) := by
 intro C
 induction C with
 | nil => intro k e h; simp at h
 | cons c C ih =>
  intro k e h
  cases k with
  | zero => simp [flatE]
  | succ k =>
   have := ih k e (by simpa using h)
   rw [show (k + 1) * 3 = k * 3 + 1 + 1 + 1 by omega]
   simp only [flatE, List.set_cons_succ]
   rw [this]
theorem setCells_part {b : Nat} {T : TypeId} : ∀ (vs : List Value) (o : Nat) (w : World) (cur : Array Value), w.heap[b]? = some (.cells cur T (0, 0)) → ∃ cur' : Array Value, (w.setCells b o vs).heap[b]? = some (.cells cur' T (0, 0)) ∧ cur'.size = cur.size ∧ ∀ k, k < o → cur'[k]? = cur[k]? := by
 intro vs
 induction vs with
 | nil => intro o w cur h; exact ⟨cur, h, rfl, fun _ _ => rfl⟩
 | cons v vs ih =>
  intro o w cur h
  obtain ⟨c', h1, h2, h3⟩ := ih (o + 1) (w.setCell ⟨b, o, none⟩ v) (cur.setIfInBounds o v) (heap_setCell_same w b o cur _ _ h)
  refine ⟨c', h1, by rw [h2]; simp, fun k hk => ?_⟩
  rw [h3 k (by omega), Array.getElem?_setIfInBounds_ne (by omega)]
theorem setCells_other {b k : Nat} (hk : k ≠ b) : ∀ (vs : List Value) (o : Nat) (w : World), (w.setCells b o vs).heap[k]? = w.heap[k]? := by
 intro vs
 induction vs with
 | nil => intro o w; rfl
 | cons v vs ih =>
  intro o w
  show ((w.setCell ⟨b, o, none⟩ v).setCells b (o + 1) vs).heap[k]? = _
  rw [ih, Below.heap_setCell _ _ _ _ hk]
theorem setCells_same {b : Nat} : ∀ (vs : List Value) (o : Nat) (w : World), (w.setCells b o vs).os = w.os ∧ (w.setCells b o vs).tape = w.tape ∧ (w.setCells b o vs).output = w.output ∧ (w.setCells b o vs).heap.size = w.heap.size := by
 intro vs
 induction vs with
 | nil => intro o w; exact ⟨rfl, rfl, rfl, rfl⟩
 | cons v vs ih =>
  intro o w
  obtain ⟨h1, h2, h3, h4⟩ := ih (o + 1) (w.setCell ⟨b, o, none⟩ v)
  refine ⟨h1, h2, h3, h4.trans (by simp [World.setCell])⟩
theorem zeroEdges (n : Nat) : (Builtin.zeroCells #[.int .i64 0, .int .i64 0, .int .i64 0] n).toList = List.replicate (n * 3) (.int .i64 0) := by
 unfold Builtin.zeroCells
 apply List.ext_getElem?
 intro i
 simp only [Array.toList_map, Array.toList_range, List.getElem?_map]
 by_cases h : i < n * 3
 · have h3 : i % 3 < 3 := Nat.mod_lt _ (by omega)
   rw [show #[Value.int .i64 0, Value.int .i64 0, Value.int .i64 0].size = 3 from rfl, List.getElem?_range h, List.getElem?_replicate, if_pos h]
   have e : i % 3 = 0 ∨ i % 3 = 1 ∨ i % 3 = 2 := by omega
   rcases e with e | e | e <;> simp [e]
 · rw [List.getElem?_eq_none (by simpa using h), List.getElem?_eq_none (by simpa using h)]
   rfl
theorem clear_edges (w : World) (ty : TypeId) (b o n c : Nat) (hn : 0 < n) (hc : ∀ j, j < n * 3 → (w.cell? ⟨b, o + j, none⟩).isSome = true) (hf : ∀ j, j < n * 3 → w.frozen? ⟨b, o + j, none⟩ = false) :
 (Builtin.clear_ #[24] ty #[.slice (some ⟨b, o, none⟩) n c]).run Tryz.prog w = .ok (.tuple #[]) (w.setCells b o (List.replicate (n * 3) (.int .i64 0))) := by
 have hst := run_storeCells_cells (P := Tryz.prog) b o (List.replicate (n * 3) (.int .i64 0)) 0 w (by simpa using hc) (by simpa using hf) (by intro v hv'; rw [List.eq_of_mem_replicate hv']; rfl)
 simp only [Nat.add_zero] at hst
 obtain ⟨m, rfl⟩ : ∃ m, n = m + 1 := ⟨n - 1, by omega⟩
 have hz : (zeroValue 72).run Tryz.prog w = .ok (.agg #[.int .i64 0, .int .i64 0, .int .i64 0]) w := Tryz.zeroValue72 w
 have hzc := zeroEdges (m + 1)
 simp [Builtin.clear_, run_underlying Tryz.underlying24, hz, Value.cells, hzc, hst]
def CompRet (w : World) (base g cap : Nat) (es : List Ed) (e : Ending) (w' : World) : Prop :=
 e = .returned (.slice (some ⟨g, 0, none⟩) es.length cap) ∧ w.grownBy w' (some g) ∧ OwnsE w' base (.slice (some ⟨g, 0, none⟩) es.length cap) es
theorem grownBy_drewN (w : World) (m g : Nat) : w.grownBy (w.drewN m) (some g) := ⟨rfl, rfl, rfl, Nat.le_refl _, fun _ _ _ => rfl⟩
theorem comp_fin {w wr : World} {base g cap n k : Nat} {C es : List Ed} (hown : OwnsE wr base (.slice (some ⟨g, 0, none⟩) n cap) C) (hC : C.length = n) (hg : w.grownBy wr (some g)) (hk : k ≤ n) (hes : C.take k = es) (vs : List Value) :
 CompRet w base g cap es (.returned (.slice (some ⟨g, 0, none⟩) k cap)) (wr.setCells g (k * 3) vs) := by
 have hlen : es.length = k := by rw [← hes, List.length_take]; omega
 obtain ⟨h1, h2 | ⟨g', cap', cur, hv, hb, hh, hc1, hc2, hc3, hc4⟩⟩ := hown
 · cases h2.1
 · cases hv
   obtain ⟨cur', q1, q2, q3⟩ := setCells_part vs (k * 3) wr cur hh
   obtain ⟨s1, s2, s3, s4⟩ := setCells_same (b := g) vs (k * 3) wr
   refine ⟨by rw [hlen], ⟨s1.trans hg.os, s2.trans hg.tape, s3.trans hg.output, by rw [s4]; exact hg.size, fun j hj hne => ?_⟩, by rw [List.length_map, flatE_length], .inr ⟨g, cap, cur', by rw [hlen], hb, q1, by rw [hlen]; omega, hc2, by rw [q2]; exact hc3, ?_⟩⟩
   · rw [setCells_other (fun e => hne (by rw [e]))]; exact hg.block j hj hne
   · rw [hlen]
     have ht : (cur.toList.take (C.length * 3)).take (k * 3) = ((flatE C).map iv).take (k * 3) := by rw [hc4]
     rw [List.take_take, Nat.min_eq_left (by omega)] at ht
     have hf : ((flatE C).map iv).take (k * 3) = (flatE es).map iv := by
      rw [← List.map_take, ← hes]
      congr 1
      have : flatE C = flatE (C.take k) ++ flatE (C.drop k) := by rw [← flatE_append, List.take_append_drop]
      rw [this, List.take_append_of_le_length (by rw [flatE_length, List.length_take]; omega), List.take_of_length_le (by rw [flatE_length, List.length_take]; omega)]
     rw [← hf, ← ht]
     apply List.ext_getElem?
     intro i
     rw [List.getElem?_take, List.getElem?_take]
     split
     · rw [Array.getElem?_toList, Array.getElem?_toList]; exact q3 i (by assumption)
     · rfl
theorem OwnsE.at3 {w : World} {base g cap n : Nat} {C : List Ed} (h : OwnsE w base (.slice (some ⟨g, 0, none⟩) n cap) C) {i : Nat} (hi : i < C.length) :
 w.cell? ⟨g, i * 3, none⟩ = some (.int .i64 (C.getD i e0).1) ∧ w.cell? ⟨g, i * 3 + 1, none⟩ = some (.int .i64 (C.getD i e0).2.1) ∧ w.cell? ⟨g, i * 3 + 2, none⟩ = some (.int .i64 (C.getD i e0).2.2) := by
 have hn : n = C.length := by
  obtain ⟨_, h2 | ⟨g', cap', cur, hv, _⟩⟩ := h
  · cases h2.1
  · cases hv; rfl
 subst hn
 obtain ⟨h0, h1, h2⟩ := flatE_at C i hi
 have key : ∀ m z, m < C.length * 3 → (flatE C).getD m 0 = z → w.cell? ⟨g, m, none⟩ = some (.int .i64 z) := fun m z hm hz => by
  rw [World.ownsRow.cellAt h m hm, List.getElem?_map, ← hz, List.getD_eq_getElem?_getD]
  have : m < (flatE C).length := by rw [flatE_length]; exact hm
  rw [List.getElem?_eq_getElem this]
  rfl
 exact ⟨key _ _ (by omega) h0, key _ _ (by omega) h1, key _ _ (by omega) h2⟩
def CompSt (w wr : World) (base g cap : Nat) (ds : List Ed) (p k : Nat) : Prop :=
 ∃ C : List Ed, C.length = ds.length ∧ OwnsE wr base (.slice (some ⟨g, 0, none⟩) ds.length cap) C ∧ C.take k = dd ds p ∧ (∀ j, p - 1 ≤ j → j < ds.length → C.getD j e0 = ds.getD j e0) ∧ w.grownBy wr (some g)
theorem CompSt.put {w wr : World} {base g cap : Nat} {ds : List Ed} {p k : Nat} {f l t : Int} (h : CompSt w wr base g cap ds p k) (hp : p < ds.length) (hk : k + 1 ≤ p) (he : ds.getD p e0 = (f, l, t)) (hd : p = 0 ∨ ds.getD p e0 ≠ ds.getD (p - 1) e0) (m : Nat) :
 CompSt w ((((wr.drewN m).setCell ⟨g, k * 3, none⟩ (.int .i64 f)).setCell ⟨g, k * 3 + 1, none⟩ (.int .i64 l)).setCell ⟨g, k * 3 + 2, none⟩ (.int .i64 t)) base g cap ds (p + 1) (k + 1) := by
 obtain ⟨C, h1, h2, h3, h4, h5⟩ := h
 have h2' : OwnsE (wr.drewN m) base (.slice (some ⟨g, 0, none⟩) ds.length cap) C := h2
 have hst := OwnsS.put (OwnsS.put (OwnsS.put (h1 ▸ h2') (k * 3) f) (k * 3 + 1) l) (k * 3 + 2) t
 refine ⟨C.set k (f, l, t), by rw [List.length_set, h1], ?_, ?_, fun j hj hjl => ?_, ?_⟩
 · have hfs := flatE_set C k (f, l, t) (by omega)
   simp only at hfs
   rw [hfs] at hst
   unfold OwnsE
   rw [List.length_set]
   exact h1 ▸ hst
 · rw [dd_yes hd, he, ← h3, List.take_add_one, List.getElem?_set_self (by omega), List.take_set_of_le (Nat.le_refl _)]
   rfl
 · rw [List.getD_eq_getElem?_getD, List.getElem?_set_ne (by omega), ← List.getD_eq_getElem?_getD]
   exact h4 j (by omega) hjl
 · refine ⟨h5.os, h5.tape, h5.output, by simpa [World.setCell] using h5.size, fun j hj hne => ?_⟩
   have hjg : j ≠ g := fun e => hne (by rw [e])
   rw [Below.heap_setCell _ _ _ _ hjg, Below.heap_setCell _ _ _ _ hjg, Below.heap_setCell _ _ _ _ hjg]
   exact h5.block j hj hne
theorem CompSt.skip {w wr : World} {base g cap : Nat} {ds : List Ed} {p k : Nat} (h : CompSt w wr base g cap ds p k) (hp0 : p ≠ 0) (he : ds.getD p e0 = ds.getD (p - 1) e0) (m : Nat) : CompSt w (wr.drewN m) base g cap ds (p + 1) k := by
 obtain ⟨C, h1, h2, h3, h4, h5⟩ := h
 exact ⟨C, h1, h2, by rw [dd_no hp0 he]; exact h3, fun j hj hjl => h4 j (by omega) hjl, ⟨h5.os, h5.tape, h5.output, h5.size, h5.block⟩⟩
abbrev AscE (es : List Ed) : Prop := es.Pairwise (fun a b => cmpE a b < 0)
theorem asc_of_gr {r s : Int} {es : List Ed} (h : isGr r s es = true) : AscE es := by
 obtain ⟨hp, _⟩ := isGr_iff.1 h
 have hstep : ∀ i, 0 < i → i < es.length → cmpE (es.getD (i - 1) e0) (es.getD i e0) < 0 := fun i h0 hi => by
  have := hp i hi
  unfold placeOk at this
  simp only [Bool.and_eq_true, Bool.or_eq_true, decide_eq_true_eq] at this
  rcases this.2 with h | h
  · omega
  · exact h
 have hfar : ∀ d i, i + d + 1 < es.length → cmpE (es.getD i e0) (es.getD (i + d + 1) e0) < 0 := by
  intro d
  induction d with
  | zero => intro i hi; exact hstep (i + 1) (by omega) hi
  | succ d ih =>
   intro i hi
   exact cmpE_trans (ih i (by omega)) (hstep (i + (d + 1) + 1) (by omega) hi)
 unfold AscE
 rw [List.pairwise_iff_getElem]
 intro i j hi hj hij
 have := hfar (j - i - 1) i (by omega)
 rw [show i + (j - i - 1) + 1 = j by omega, List.getD_eq_getElem?_getD, List.getD_eq_getElem?_getD, List.getElem?_eq_getElem hi, List.getElem?_eq_getElem hj] at this
 exact this
theorem putE_mem {e x : Ed} : ∀ {es : List Ed}, x ∈ putE e es ↔ x = e ∨ x ∈ es := by
 intro es
 induction es with
 | nil => simp [putE]
 | cons y ys ih =>
  rcases cmpE_cases e y with c | c | c
  · rw [putE_lt ys (by omega)]; simp
  · rw [putE_eq ys c]
    have := cmpE_zero c
    subst this
    simp
  · rw [putE_gt ys (by omega), List.mem_cons, ih, List.mem_cons]
    constructor
    · rintro (h | h | h)
      · exact .inr (.inl h)
      · exact .inl h
      · exact .inr (.inr h)
    · rintro (h | h | h)
      · exact .inr (.inl h)
      · exact .inl h
      · exact .inr (.inr h)
theorem putE_asc (e : Ed) : ∀ {es : List Ed}, AscE es → AscE (putE e es) := by
 intro es
 induction es with
 | nil => intro _; exact List.pairwise_singleton _ _
 | cons y ys ih =>
  intro h
  have hp := List.pairwise_cons.1 h
  rcases cmpE_cases e y with c | c | c
  · rw [putE_lt ys (by omega)]
    refine List.pairwise_cons.2 ⟨fun z hz => ?_, h⟩
    rcases List.mem_cons.1 hz with hz | hz
    · rw [hz]; omega
    · exact cmpE_trans (by omega : cmpE e y < 0) (hp.1 z hz)
  · rw [putE_eq ys c]; exact h
  · rw [putE_gt ys (by omega)]
    refine List.pairwise_cons.2 ⟨fun z hz => ?_, ih hp.2⟩
    rcases putE_mem.1 hz with hz | hz
    · rw [hz]; have := cmpE_neg e y; omega
    · exact hp.1 z hz
def putAll (es L : List Ed) : List Ed := L.foldl (fun acc e => putE e acc) es
theorem putAll_snoc (es L : List Ed) (e : Ed) : putAll es (L ++ [e]) = putE e (putAll es L) := by unfold putAll; rw [List.foldl_append]; rfl
theorem putAll_spec : ∀ (L es : List Ed), AscE es → AscE (putAll es L) ∧ ∀ x, x ∈ putAll es L ↔ x ∈ es ∨ x ∈ L := by
 intro L
 induction L with
 | nil => intro es h; exact ⟨h, fun x => by simp [putAll]⟩
 | cons e L ih =>
  intro es h
  obtain ⟨h1, h2⟩ := ih (putE e es) (putE_asc e h)
  refine ⟨h1, fun x => ?_⟩
  show x ∈ putAll (putE e es) L ↔ _
  rw [h2, putE_mem, List.mem_cons]
  constructor
  · rintro ((h | h) | h)
    · exact .inr (.inl h)
    · exact .inl h
    · exact .inr (.inr h)
  · rintro (h | h | h)
    · exact .inl (.inr h)
    · exact .inl (.inl h)
    · exact .inr h
theorem putAll_length (L : List Ed) : ∀ es, (putAll es L).length ≤ es.length + L.length := by
 induction L with
 | nil => intro es; simp [putAll]
 | cons e L ih =>
  intro es
  have h1 := ih (putE e es)
  have h2 := putE_length e es
  show (putAll (putE e es) L).length ≤ _
  rw [List.length_cons]
  omega
theorem ascE_ext : ∀ {a b : List Ed}, AscE a → AscE b → (∀ x, x ∈ a ↔ x ∈ b) → a = b := by
 intro a
 induction a with
 | nil =>
  intro b _ _ h
  cases b with
  | nil => rfl
  | cons y ys => exact absurd ((h y).2 List.mem_cons_self) (by simp)
 | cons x xs ih =>
  intro b ha hb h
  cases b with
  | nil => exact absurd ((h x).1 List.mem_cons_self) (by simp)
  | cons y ys =>
   have hxa := List.pairwise_cons.1 ha
   have hyb := List.pairwise_cons.1 hb
   have hxy : x = y := by
    rcases List.mem_cons.1 ((h x).1 List.mem_cons_self) with e | e
    · exact e
    · rcases List.mem_cons.1 ((h y).2 List.mem_cons_self) with e2 | e2
      · exact e2.symm
      · have h1 := hyb.1 x e
        have h2 := hxa.1 y e2
        have := cmpE_neg x y
        omega
   subst hxy
   congr 1
   refine ih hxa.2 hyb.2 fun z => ⟨fun hz => ?_, fun hz => ?_⟩
   · rcases List.mem_cons.1 ((h z).1 (List.mem_cons_of_mem _ hz)) with e | e
     · subst e; have := hxa.1 z hz; rw [cmpE_self] at this; omega
     · exact e
   · rcases List.mem_cons.1 ((h z).2 (List.mem_cons_of_mem _ hz)) with e | e
     · subst e; have := hyb.1 z hz; rw [cmpE_self] at this; omega
     · exact e
theorem getE_el {es : List Ed} {i : Nat} (h : i < es.length) : es.getD i e0 = es[i] := by rw [List.getD_eq_getElem?_getD, List.getElem?_eq_getElem h]; rfl
end Go.Proofs.YtpjlamnjiilgbaaGreat
namespace Go.Proofs.YtpjlamnjiilgbaaGreat
open Go.RowKit
set_option linter.unusedVariables false
set_option linter.unusedSimpArgs false
theorem eB_one (u l v : Int) : v = (eB u l v).1 ∨ v = (eB u l v).2.2 := by
 unfold eB; split
 · exact .inl rfl
 · exact .inr rfl
theorem eB_two (u l v : Int) : ((eB u l v).1 = u ∨ (eB u l v).1 = v) ∧ ((eB u l v).2.2 = u ∨ (eB u l v).2.2 = v) := by
 unfold eB; split
 · exact ⟨.inr rfl, .inl rfl⟩
 · exact ⟨.inl rfl, .inr rfl⟩
def eA (S : List Ar) (j : Nat) : Ed := eB (S.getD (S.getD j d0).1.2.2.toNat d0).1.1 (S.getD j d0).1.2.1 (S.getD j d0).1.1
def trA (S : List Ar) : List Ed := (List.range (S.length - 1)).map fun j => eA S (j + 1)
theorem trA_length (S : List Ar) : (trA S).length = S.length - 1 := by simp [trA]
theorem trA_at {S : List Ar} {j : Nat} (h : j + 1 < S.length) : (trA S).getD j e0 = eA S (j + 1) := by
 rw [List.getD_eq_getElem?_getD, trA, List.getElem?_map, List.getElem?_range (by omega)]; rfl
theorem eA_left {s : Nat} {u : Int} {S T : List Ar} (h : GoodA s u S) {j : Nat} (h0 : 0 < j) (hj : j < S.length) : eA (S ++ T) j = eA S j := by
 obtain ⟨b, hb, h1, _⟩ := h.back j h0 hj
 unfold eA
 rw [getD_left hj, h1, Int.toNat_natCast, getD_left (by omega)]
theorem trA_snoc {s : Nat} {u : Int} {S : List Ar} (h : GoodA s u S) {i : Nat} (hi : i < S.length) (y l : Int) (wd : List Int) : trA (S ++ [((y, l, (i : Int)), wd)]) = trA S ++ [eB (S.getD i d0).1.1 l y] := by
 have hp := h.pos
 have hl : (S ++ [((y, l, (i : Int)), wd)]).length - 1 = (S.length - 1) + 1 := by rw [List.length_append, List.length_singleton]; omega
 unfold trA
 rw [hl, List.range_succ, List.map_append]
 congr 1
 · refine List.map_congr_left fun j hj => ?_
   have := List.mem_range.1 hj
   exact eA_left h (by omega) (by omega)
 · show [eA _ (S.length - 1 + 1)] = _
   rw [show S.length - 1 + 1 = S.length by omega]
   unfold eA
   rw [getD_last]
   show [eB ((S ++ [((y, l, (i : Int)), wd)]).getD (Int.toNat (i : Int)) d0).1.1 l y] = _
   rw [Int.toNat_natCast, getD_left hi]
theorem nd_arr1 {es : List Ed} {i : Nat} {S : List Ar} {l : Int} (h : (vts S).Nodup) : (vts (arr1 es i S l)).Nodup := by
 unfold arr1
 split
 case isFalse => exact h
 case isTrue hc =>
  unfold vts at hc h ⊢
  rw [List.map_append, List.nodup_append]
  refine ⟨h, by simp, fun a ha b hb => ?_⟩
  simp at hb
  intro e
  rw [e, hb] at ha
  exact hc.2 ha
theorem nd_foldl {es : List Ed} {i : Nat} : ∀ (ls : List Int) {S : List Ar}, (vts S).Nodup → (vts (ls.foldl (arr1 es i) S)).Nodup := by
 intro ls
 induction ls with
 | nil => intro S h; exact h
 | cons l ls ih => intro S h; exact ih (nd_arr1 h)
theorem nd_arrN (es : List Ed) (ls : List Int) (u : Int) : ∀ k, (vts (arrN es ls u k)).Nodup := by
 intro k
 induction k with
 | zero => simp [arrN, vts]
 | succ k ih =>
  rw [arrN]
  split
  · exact nd_foldl ls ih
  · exact ih
theorem vts_el {S : List Ar} {j : Nat} (h : j < S.length) : (vts S)[j]'(by unfold vts; rw [List.length_map]; exact h) = (S.getD j d0).1.1 := by
 unfold vts
 rw [List.getElem_map, List.getD_eq_getElem?_getD, List.getElem?_eq_getElem h]; rfl
theorem vts_inj {S : List Ar} (h : (vts S).Nodup) {i j : Nat} (hi : i < S.length) (hj : j < S.length) (e : (S.getD i d0).1.1 = (S.getD j d0).1.1) : i = j := by
 rw [← vts_el hi, ← vts_el hj] at e
 exact (List.getElem_inj h).1 e
theorem eA_ne {s : Nat} {u : Int} {S : List Ar} (h : GoodA s u S) (hn : (vts S).Nodup) {i j : Nat} (h0 : 0 < i) (hij : i < j) (hj : j < S.length) : eA S i ≠ eA S j := by
 intro e
 obtain ⟨b, hb, h1, _⟩ := h.back i h0 (by omega)
 have hone := eB_one (S.getD (S.getD j d0).1.2.2.toNat d0).1.1 (S.getD j d0).1.2.1 (S.getD j d0).1.1
 have htwo := eB_two (S.getD (S.getD i d0).1.2.2.toNat d0).1.1 (S.getD i d0).1.2.1 (S.getD i d0).1.1
 change (S.getD j d0).1.1 = (eA S j).1 ∨ (S.getD j d0).1.1 = (eA S j).2.2 at hone
 change ((eA S i).1 = _ ∨ (eA S i).1 = _) ∧ ((eA S i).2.2 = _ ∨ (eA S i).2.2 = _) at htwo
 rw [← e] at hone
 rw [h1, Int.toNat_natCast] at htwo
 have hbad : ∀ k, k < j → (S.getD j d0).1.1 ≠ (S.getD k d0).1.1 := fun k hk q => by
  have := vts_inj hn hj (by omega) q
  omega
 rcases hone with q | q
 · rcases htwo.1 with p | p
   · exact hbad b (by omega) (q.trans p)
   · exact hbad i hij (q.trans p)
 · rcases htwo.2 with p | p
   · exact hbad b (by omega) (q.trans p)
   · exact hbad i hij (q.trans p)
theorem trA_nodup {s : Nat} {u : Int} {S : List Ar} (h : GoodA s u S) (hn : (vts S).Nodup) : (trA S).Nodup := by
 unfold trA
 rw [List.nodup_iff_pairwise_ne, List.pairwise_map]
 refine List.Pairwise.imp_of_mem (fun {a b} ha hb hab => ?_) List.pairwise_lt_range
 have := List.mem_range.1 hb
 exact eA_ne h hn (by omega) (by omega) (by omega)
theorem sort_nodup {L ds : List Ed} (hp : ds.Perm L) (hs : ds.Pairwise (fun a b => ¬ cmpE b a < 0)) (hn : L.Nodup) : ds = putAll [] L := by
 have hd : ds.Nodup := hp.nodup_iff.2 hn
 have ha : AscE ds := by
  have h2 := hs.and (List.nodup_iff_pairwise_ne.1 hd)
  refine h2.imp fun {a b} hab => ?_
  have := cmpE_neg a b
  rcases cmpE_cases a b with c | c | c
  · omega
  · exact absurd (cmpE_zero c) hab.2
  · exact absurd (by omega) hab.1
 obtain ⟨g1, g2⟩ := putAll_spec L [] List.Pairwise.nil
 refine ascE_ext ha g1 fun x => ?_
 rw [g2, hp.mem_iff]
 simp
def trE (r s : Int) (es : List Ed) : List Ed := if isFo r s es = true then putAll [] (trA (foundA r es 0)) else []
def exE (r s : Int) (es : List Ed) : List Ed := if isFo r s es = true then es.filter (fun e => decide (e ∉ trE r s es)) else []
theorem fo_lim {r s : Int} {es : List Ed} (h : isFo r s es = true) : 1 ≤ r ∧ r ≤ 3 ∧ 1 ≤ s ∧ s ≤ 40 ∧ es.length ≤ 120 := by
 unfold isFo at h
 rw [Bool.and_eq_true] at h
 exact isGr_lim h.1
theorem trA_found {r s : Int} {es : List Ed} (h : isFo r s es = true) : (trA (foundA r es 0)).Nodup ∧ (trA (foundA r es 0)).length ≤ 39 := by
 have hl := fo_lim h
 have hg := foundA_good h (u := 0) (by omega)
 refine ⟨trA_nodup hg (nd_arrN _ _ _ _), ?_⟩
 rw [trA_length]
 have := hg.length
 omega
theorem trE_length (r s : Int) (es : List Ed) : (trE r s es).length ≤ 39 := by
 unfold trE
 split
 · rename_i h
   have h1 := putAll_length (trA (foundA r es 0)) []
   have h2 := (trA_found h).2
   simp at h1
   omega
 · simp
theorem exE_length (r s : Int) (es : List Ed) : (exE r s es).length ≤ 120 := by
 unfold exE
 split
 · rename_i h
   have h1 := List.length_filter_le (fun e => decide (e ∉ trE r s es)) es
   have h2 := fo_lim h
   omega
 · simp
def wdA (S : List Ar) (v : Int) : List Int := if v ∈ vts S then (S.getD (placeA S v) d0).2 else []
theorem path_wd {r s : Int} {es : List Ed} (h : isFo r s es = true) (v : Int) : pathA r s es 0 v = wdA (foundA r es 0) v := by
 have hl := fo_lim h
 have hg := foundA_good h (u := 0) (by omega)
 unfold pathA wdA pathT okPath
 rw [h, show isVx s 0 = true from decide_eq_true (by omega)]
 by_cases hin : v ∈ vts (foundA r es 0)
 · have hp := placeA_lt hin
   have hv := hg.vert _ hp.1
   rw [hp.2] at hv
   rw [show isVx s v = true from decide_eq_true (by omega), decide_eq_true hin, if_pos hin, if_pos (by rfl)]
 · rw [decide_eq_false hin, if_neg hin, Bool.and_false, if_neg (by decide)]
def loL (r s : Int) (es : List Ed) (e : Ed) : List Int :=
 if isFo r s es = true ∧ e ∈ es then mulL (pathA r s es 0 e.1 ++ [e.2.1]) (invL (pathA r s es 0 e.2.2)) else []
def notT (T es : List Ed) : List Ed := es.filter fun e => decide (e ∉ T)
theorem notT_all {T es : List Ed} (h : ∀ j, j < es.length → es.getD j e0 ∉ T) : notT T es = es := by
 refine List.filter_eq_self.2 fun e he => decide_eq_true ?_
 obtain ⟨i, hi, rfl⟩ := List.getElem_of_mem he
 rw [← getE_at hi]; exact h i hi
where getE_at {es : List Ed} {i : Nat} (h : i < es.length) : es.getD i e0 = es[i] := by rw [List.getD_eq_getElem?_getD, List.getElem?_eq_getElem h]; rfl
theorem notT_next {T es : List Ed} {j : Nat} (h : j < es.length) : notT T (es.take (j + 1)) = notT T (es.take j) ++ (if es.getD j e0 ∉ T then [es.getD j e0] else []) := by
 unfold notT
 rw [List.take_add_one, List.getElem?_eq_getElem h, List.filter_append, List.getD_eq_getElem?_getD, List.getElem?_eq_getElem h]
 congr 1
 simp [List.filter_cons]
theorem exE_not {r s : Int} {es : List Ed} (h : isFo r s es = true) : exE r s es = notT (trE r s es) es := by unfold exE notT; rw [if_pos h]
def LwIntsBoolO (w : World) (zs : List Int) (b : Bool) (e : Ending) (w' : World) : Prop := ∃ v, e = .returned (.tuple #[v, .bool b]) ∧ OwnsI w' w.heap.size v zs ∧ Below w.heap.size w w'
def IntsRetO (w : World) (zs : List Int) (e : Ending) (w' : World) : Prop := ∃ v, e = .returned v ∧ OwnsI w' w.heap.size v zs ∧ Below w.heap.size w w'
theorem IntsRetO.ret {w : World} {zs : List Int} {e : Ending} {w' : World} (h : IntsRetO w zs e w') (hl : zs.length ≤ 1000000) : IntsRet w zs e w' := by
 obtain ⟨v, h1, h2, h3⟩ := h
 exact ⟨v, h1, h2.row (by omega), h3⟩
end Go.Proofs.YtpjlamnjiilgbaaGreat
namespace Go.Proofs.YtpjlamnjiilgbaaGreat
open Go.RowKit
set_option linter.unusedVariables false
set_option linter.unusedSimpArgs false
def MSt (w : World) (X base : Nat) (r sz : Int) (v : Value) (E : List Ed) : Prop :=
 w.heap[X]? = some (.cells #[.int .i64 r, .int .i64 sz, v] 26 (0, 0)) ∧ ∃ lo hi, RowS 72 3 w lo hi v E.length (flatE E) ∧ base ≤ lo ∧ hi ≤ w.heap.size ∧ (hi ≤ X ∨ X < lo)
theorem MSt.put {w w' : World} {X base : Nat} {r sz : Int} {v v' : Value} {E E' : List Ed} (h : MSt w X base r sz v E) (hX : X < w.heap.size) (hb : Below w.heap.size w w') (hbase : base ≤ w.heap.size) (hr : RowS 72 3 w' w.heap.size w'.heap.size v' E'.length (flatE E')) :
 MSt (w'.setCell ⟨X, 2, none⟩ v') X base r sz v' E' := by
 obtain ⟨h1, lo, hi, h2, h3, h4, h5⟩ := h
 refine ⟨?_, w.heap.size, w'.heap.size, hr.keep (fun k q1 q2 => Below.heap_setCell _ _ _ _ (show k ≠ X by omega)), hbase, by simp [World.setCell], .inr hX⟩
 have hx : w'.heap[X]? = some (.cells #[.int .i64 r, .int .i64 sz, v] 26 (0, 0)) := by rw [hb.block X hX]; exact h1
 have := heap_setCell_same w' X 2 _ _ v' hx
 simpa using this
theorem MSt.form {w : World} {X base : Nat} {r sz : Int} {v : Value} {E : List Ed} (h : MSt w X base r sz v E) : ∃ a c, v = .slice a E.length c := by
 obtain ⟨_, lo, hi, ⟨_, _, ⟨h1, h2⟩ | ⟨g, off, cap, cur, h1, _⟩⟩, _⟩ := h
 · exact ⟨none, 0, by rw [h1, h2]⟩
 · exact ⟨_, _, h1⟩
theorem MSt.drew {w : World} {X base : Nat} {r sz : Int} {v : Value} {E : List Ed} (h : MSt w X base r sz v E) : MSt w.drew X base r sz v E := h
theorem MSt.read {w : World} {X base : Nat} {r sz : Int} {v : Value} {E : List Ed} (h : MSt w X base r sz v E) : ReadE w.heap.size w v E := by
 obtain ⟨h1, lo, hi, h2, h3, h4, h5⟩ := h
 exact h2.read.mono h4
theorem size_set3K {b : Nat} {w : World} {x0 x1 x2 : Value} : (((w.setCell ⟨b, 0, none⟩ x0).setCell ⟨b, 1, none⟩ x1).setCell ⟨b, 2, none⟩ x2).heap.size = w.heap.size := by simp [World.setCell]
theorem mst_fin {w w9 : World} {X R base cap : Nat} {r s' : Int} {E : List Ed} {b : Bool} {a : Option Addr} (hR : w.heap.size ≤ R) (hRX : R < base) (hbw : Below w.heap.size w w9) (h : MSt w9 X base r s' (.slice a E.length cap) E) :
 LwGraphBool w r s' E b (.returned (.tuple #[.agg #[.int .i64 r, .int .i64 s', .slice a E.length cap], .bool b])) (((w9.setCell ⟨R, 0, none⟩ (.int .i64 r)).setCell ⟨R, 1, none⟩ (.int .i64 s')).setCell ⟨R, 2, none⟩ (.slice a E.length cap)) := by
 obtain ⟨h1, lo, hi, h2, h3, h4, h5⟩ := h
 refine ⟨a, cap, rfl, ?_, below_set3 hbw hR⟩
 have hsz : (((w9.setCell ⟨R, 0, none⟩ (.int .i64 r)).setCell ⟨R, 1, none⟩ (.int .i64 s')).setCell ⟨R, 2, none⟩ (.slice a E.length cap)).heap.size = w9.heap.size := size_set3K
 have h9 : RowS 72 3 (((w9.setCell ⟨R, 0, none⟩ (.int .i64 r)).setCell ⟨R, 1, none⟩ (.int .i64 s')).setCell ⟨R, 2, none⟩ (.slice a E.length cap)) lo hi (.slice a E.length cap) E.length (flatE E) := h2.keep (fun k q1 q2 => by
  have hk : k ≠ R := by omega
  rw [Below.heap_setCell _ _ _ _ hk, Below.heap_setCell _ _ _ _ hk, Below.heap_setCell _ _ _ _ hk])
 exact h9.wide (by omega) (by rw [hsz]; exact h4)
theorem MSt.below {w w' : World} {X base : Nat} {r sz : Int} {v : Value} {E : List Ed} (h : MSt w X base r sz v E) (hX : X < w.heap.size) (hb : Below w.heap.size w w') : MSt w' X base r sz v E := by
 obtain ⟨h1, lo, hi, h2, h3, h4, h5⟩ := h
 exact ⟨by rw [hb.block X hX]; exact h1, lo, hi, h2.below hb h4, h3, Nat.le_trans h4 hb.size, h5⟩
end Go.Proofs.YtpjlamnjiilgbaaGreat
