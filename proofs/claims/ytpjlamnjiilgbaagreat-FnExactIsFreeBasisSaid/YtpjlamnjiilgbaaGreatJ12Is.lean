import Derived.Deep.LoopGhost
import Derived.Deep.Cut
import Derived.Test.YtpjlamnjiilgbaaGreatJ11Is
import Derived.Test.YtpjlamnjiilgbaaGreatJ6Is
import Derived.Test.YtpjlamnjiilgbaaGreatJ5Is
namespace Go.Proofs.YtpjlamnjiilgbaaGreat
open Go.RowKit
set_option linter.unusedVariables false
set_option linter.unusedSimpArgs false
def frcB (a b : Ed) : Bool := decide (a.2.1 = b.2.1) && (decide (a.1 = b.1) || decide (a.2.2 = b.2.2))
def frcF (a b : Ed) : tupF := if a.2.1 = b.2.1 then (if a.1 = b.1 then (a.2.2, b.2.2) else if a.2.2 = b.2.2 then (a.1, b.1) else zeroF) else zeroF
theorem frc_pair {a b : Ed} (h : cmpE a b < 0) : pairF a b = if frcB a b = true then [frcF a b] else [] := by
 obtain ⟨f, l, t⟩ := a
 obtain ⟨f', l', t'⟩ := b
 have hlt : f < f' ∨ f = f' ∧ (l < l' ∨ l = l' ∧ t < t') := by
  unfold cmpE at h
  repeat' split at h
  all_goals (simp only at *; omega)
 unfold pairF frcB frcF
 simp only
 by_cases hl : l = l'
 · subst hl
   by_cases hf : f = f'
   · subst hf
     have ht : t < t' := by omega
     have hne : ¬ t = t' := by omega
     simp [hne]
     omega
   · by_cases ht : t = t'
     · subst ht
       have : f < f' := by omega
       simp [hf]
       omega
     · simp [hf, ht]
 · simp [hl]
set_option maxHeartbeats 1600000 in
theorem progForced (w : World) (f l t f' l' t' : Int) :
 Calls Tryz.prog 210 #[.agg #[.int .i64 f, .int .i64 l, .int .i64 t], .agg #[.int .i64 f', .int .i64 l', .int .i64 t']] w (LwFoldBool w (frcF (f, l, t) (f', l', t')) (frcB (f, l, t) (f', l', t'))) := by
 obtain ⟨w1, hw1⟩ := exq ((w.alloc (.cells #[.int .i64 f, .int .i64 l, .int .i64 t] 72)).alloc (.cells #[.int .i64 f', .int .i64 l', .int .i64 t'] 72))
 have hb1 : Below w.heap.size w w1 := by rw [hw1]; exact ((Below.refl _ _).alloc (Nat.le_refl _) _).alloc (by simp) _
 have hs1 : w1.heap.size = w.heap.size + 1 + 1 := by rw [hw1]; simp
 have ha := heap_box w (.cells #[.int .i64 f, .int .i64 l, .int .i64 t] 72) (.cells #[.int .i64 f', .int .i64 l', .int .i64 t'] 72)
 have hb := heap_alloc_new (w.alloc (.cells #[.int .i64 f, .int .i64 l, .int .i64 t] 72)) (.cells #[.int .i64 f', .int .i64 l', .int .i64 t'] 72)
 rw [← hw1] at ha hb
 rw [show (w.alloc (.cells #[.int .i64 f, .int .i64 l, .int .i64 t] 72)).heap.size = w.heap.size + 1 by simp] at hb
 obtain ⟨w2, hw2⟩ := exq (w1.alloc (.cells #[.int .i64 0, .int .i64 0] 167))
 have hb12 : Below w1.heap.size w1 w2 := by rw [hw2]; exact (Below.refl _ _).alloc (Nat.le_refl _) _
 have hk := heap_alloc_new w1 (.cells #[.int .i64 0, .int .i64 0] 167)
 rw [← hw2, hs1] at hk
 have hb2 : Below w.heap.size w w2 := hb1.trans (hb12.mono (by omega))
 rw [← hb12.block _ (by omega)] at ha hb
 have a0 : w2.cell? ⟨w.heap.size, 0, none⟩ = some (.int .i64 f) := by simpa using cell_of_heap ha 0
 have a1 : w2.cell? ⟨w.heap.size, 1, none⟩ = some (.int .i64 l) := by simpa using cell_of_heap ha 1
 have a2 : w2.cell? ⟨w.heap.size, 2, none⟩ = some (.int .i64 t) := by simpa using cell_of_heap ha 2
 have b0 : w2.cell? ⟨w.heap.size + 1, 0, none⟩ = some (.int .i64 f') := by simpa using cell_of_heap hb 0
 have b1 : w2.cell? ⟨w.heap.size + 1, 1, none⟩ = some (.int .i64 l') := by simpa using cell_of_heap hb 1
 have b2 : w2.cell? ⟨w.heap.size + 1, 2, none⟩ = some (.int .i64 t') := by simpa using cell_of_heap hb 2
 have y0 : w2.cell? ⟨w.heap.size + 1 + 1, 0, none⟩ = some (.int .i64 0) := by simpa using cell_of_heap hk 0
 have y1 : w2.cell? ⟨w.heap.size + 1 + 1, 1, none⟩ = some (.int .i64 0) := by simpa using cell_of_heap hk 1
 have f1 := fun j => frozen_of_row w2 (w.heap.size + 1 + 1) j _ _ hk
 have hend : ∀ x y : Int, Below w.heap.size w ((w2.setCell ⟨w.heap.size + 1 + 1, 0, none⟩ (.int .i64 x)).setCell ⟨w.heap.size + 1 + 1, 1, none⟩ (.int .i64 y)) := fun x y =>
  (hb2.setCell (p := ⟨w.heap.size + 1 + 1, 0, none⟩) (by simp; omega) _).setCell (p := ⟨w.heap.size + 1 + 1, 1, none⟩) (by simp; omega) _
 have hset := fun x y : Int => set2F hk (.int .i64 x) (.int .i64 y)
 have hww : ((w.alloc (.cells #[.int .i64 f, .int .i64 l, .int .i64 t] 72)).alloc (.cells #[.int .i64 f', .int .i64 l', .int .i64 t'] 72)).alloc (.cells #[.int .i64 0, .int .i64 0] 167) = w2 := by rw [hw2, hw1]
 obtain ⟨B, hB⟩ := exq (frcB (f, l, t) (f', l', t'))
 obtain ⟨F, hF⟩ := exq (frcF (f, l, t) (f', l', t'))
 rw [← hB, ← hF]
 replace hend := hidI hend
 replace hset := hidI hset
 replace hww := hidI hww
 replace hk := hidI hk
 replace ha := hidI ha
 replace hb := hidI hb
 replace hw1 := hidI hw1
 replace hw2 := hidI hw2
 replace hs1 := hidI hs1
 clear hb1 hb12 hb2
 by_cases q1 : l = l'
 · by_cases q2 : f = f'
   · have hBB : B = true := by rw [hB]; unfold frcB; simp [q1, q2]
     have hFF : F = (t, t') := by rw [hF]; unfold frcF; simp [q1, q2]
     subst q1 q2 hBB hFF
     replace hB := hidI hB
     replace hF := hidI hF
     have e1 : (l != l) = false := by simp
     have e2 : (f == f) = true := by simp
     go_enter Tryz.func210, Tryz.ntmps210
     go_upto_region 1 with fail
     rw [hww.out]
     go_wp2
     (try simp only [Exit.inBlock, Exit.then])
     refine ret_cell2 (x := .bool true) rfl rfl rfl (hset.out _ _) Tryz.underlying167 sizeFold ?_
     exact ⟨rfl, hend.out _ _⟩
   · have e2 : (f == f') = false := by rw [beq_eq_false_iff_ne]; exact q2
     by_cases q3 : t = t'
     · have hBB : B = true := by rw [hB]; unfold frcB; simp [q1, q3]
       have hFF : F = (f, f') := by rw [hF]; unfold frcF; simp [q1, q2, q3]
       subst q1 q3 hBB hFF
       replace q2 := hidI q2
       replace hB := hidI hB
       replace hF := hidI hF
       have e1 : (l != l) = false := by simp
       have e3 : (t == t) = true := by simp
       go_enter Tryz.func210, Tryz.ntmps210
       go_upto_region 1 with fail
       rw [hww.out]
       go_wp2
       (try simp only [Exit.inBlock, Exit.then])
       refine ret_cell2 (x := .bool true) rfl rfl rfl (hset.out _ _) Tryz.underlying167 sizeFold ?_
       exact ⟨rfl, hend.out _ _⟩
     · have hBB : B = false := by rw [hB]; unfold frcB; simp [q2, q3]
       have hFF : F = (0, 0) := by rw [hF]; unfold frcF; simp [q2, q3, zeroF]
       subst q1 hBB hFF
       have e3 : (t == t') = false := by rw [beq_eq_false_iff_ne]; exact q3
       replace q2 := hidI q2
       replace q3 := hidI q3
       replace hB := hidI hB
       replace hF := hidI hF
       have e1 : (l != l) = false := by simp
       go_enter Tryz.func210, Tryz.ntmps210
       go_upto_region 1 with fail
       rw [hww.out]
       go_wp2
       (try simp only [Exit.inBlock, Exit.then])
       refine ret_cell2 (x := .bool false) rfl rfl rfl (hset.out 0 0) Tryz.underlying167 sizeFold ?_
       exact ⟨rfl, hend.out 0 0⟩
 · have hBB : B = false := by rw [hB]; unfold frcB; simp [q1]
   have hFF : F = (0, 0) := by rw [hF]; unfold frcF; simp [q1, zeroF]
   have e1 : (l != l') = true := by rw [bne_iff_ne]; exact q1
   subst hBB hFF
   replace q1 := hidI q1
   replace hB := hidI hB
   replace hF := hidI hF
   go_enter Tryz.func210, Tryz.ntmps210
   go_upto_region 1 with fail
   rw [hww.out]
   go_wp2
   (try simp only [Exit.inBlock, Exit.then])
   refine ret_cell2 (x := .bool false) rfl rfl rfl (hset.out 0 0) Tryz.underlying167 sizeFold ?_
   exact ⟨rfl, hend.out 0 0⟩
theorem mergeN_put (k d : Int) (es : List Ed) : ∀ i, i ≤ es.length → mergeN k d es i = putAll [] ((es.take i).map (newE k d)) := by
 intro i
 induction i with
 | zero => intro _; simp [mergeN, putAll]
 | succ i ih =>
  intro hi
  rw [mergeN, ih (by omega), List.take_add_one, List.getElem?_eq_getElem (by omega : i < es.length), Option.toList, List.map_append, List.map_singleton, putAll_snoc, getE_el (by omega)]
theorem mergeE_put (k d : Int) (es : List Ed) : mergeE k d es = putAll [] (es.map (newE k d)) := by
 unfold mergeE
 rw [mergeN_put k d es es.length (Nat.le_refl _), List.take_length]
theorem put_asc (L : List Ed) : AscE (putAll [] L) := (putAll_spec L [] List.Pairwise.nil).1
theorem put_mem {L : List Ed} {x : Ed} : x ∈ putAll [] L ↔ x ∈ L := by
 rw [(putAll_spec L [] List.Pairwise.nil).2 x]
 simp
def mE (nm : Nat → Int) (e : Ed) : Ed := (nm e.1.toNat, e.2.1, nm e.2.2.toNat)
def resE (nm : Nat → Int) (es : List Ed) : List Ed := putAll [] (es.map (mE nm))
theorem resE_length (nm : Nat → Int) (es : List Ed) : (resE nm es).length ≤ es.length := by
 have := putAll_length (es.map (mE nm)) []
 simpa [resE] using this
theorem resE_next (nm : Nat → Int) (k d : Int) (es : List Ed) : resE (fun i => newV k d (nm i)) es = mergeE k d (resE nm es) := by
 rw [mergeE_put]
 refine ascE_ext (put_asc _) (put_asc _) fun x => ?_
 unfold resE
 rw [put_mem, put_mem]
 simp only [List.mem_map]
 constructor
 · rintro ⟨e, he, rfl⟩
   exact ⟨mE nm e, put_mem.2 (List.mem_map.2 ⟨e, he, rfl⟩), rfl⟩
 · rintro ⟨y, hy, rfl⟩
   obtain ⟨e, he, rfl⟩ := List.mem_map.1 (put_mem.1 hy)
   exact ⟨e, he, rfl⟩
theorem resE_id {es : List Ed} (h : AscE es) (hp : ∀ e ∈ es, 0 ≤ e.1 ∧ 0 ≤ e.2.2) : resE (fun i => (i : Int)) es = es := by
 refine ascE_ext (put_asc _) h fun x => ?_
 unfold resE
 rw [put_mem]
 have hm : ∀ e ∈ es, mE (fun i => (i : Int)) e = e := fun e he => by
  obtain ⟨h1, h2⟩ := hp e he
  obtain ⟨f, l, t⟩ := e
  unfold mE
  simp only at h1 h2 ⊢
  rw [Int.toNat_of_nonneg h1, Int.toNat_of_nonneg h2]
 simp only [List.mem_map]
 constructor
 · rintro ⟨e, he, rfl⟩
   rw [hm e he]; exact he
 · intro hx
   exact ⟨x, hx, hm x hx⟩
theorem wrapS {s : Int} (h : 1 ≤ s ∧ s ≤ 40) : wrap64 (s - 1) = s - 1 := by unfold wrap64; omega
theorem gr_edge {r s : Int} {es : List Ed} (h : isGr r s es = true) {e : Ed} (he : e ∈ es) : (0 ≤ e.1 ∧ e.1 < s) ∧ (0 ≤ e.2.2 ∧ e.2.2 < s) ∧ (1 ≤ e.2.1 ∧ e.2.1 ≤ r) := by
 obtain ⟨hp, _, _, h1, h2, _⟩ := isGr_iff.1 h
 obtain ⟨i, hi, rfl⟩ := List.getElem_of_mem he
 have := hp i hi
 unfold placeOk edgeOk at this
 rw [getE_el hi, wrapS (by omega)] at this
 simp only [Bool.and_eq_true, decide_eq_true_eq] at this
 omega
theorem gr_of_asc {r s : Int} {es : List Ed} (ha : AscE es) (hp : ∀ e ∈ es, (0 ≤ e.1 ∧ e.1 < s) ∧ (0 ≤ e.2.2 ∧ e.2.2 < s) ∧ (1 ≤ e.2.1 ∧ e.2.1 ≤ r)) (hr : 1 ≤ r ∧ r ≤ 3) (hs : 1 ≤ s ∧ s ≤ 40) (hl : es.length ≤ 120) : isGr r s es = true := by
 refine isGr_iff.2 ⟨fun i hi => ?_, hr.1, hr.2, hs.1, hs.2, hl⟩
 have h1 := hp _ (List.getElem_mem hi)
 unfold placeOk edgeOk
 rw [getE_el hi, wrapS (by omega)]
 simp only [Bool.and_eq_true, Bool.or_eq_true, decide_eq_true_eq]
 refine ⟨⟨⟨by omega, by omega⟩, by omega⟩, ?_⟩
 by_cases h0 : i = 0
 · exact .inl h0
 · right
   have := (List.pairwise_iff_getElem.1 ha) (i - 1) i (by omega) hi (by omega)
   rw [getE_el (by omega : i - 1 < es.length)]
   exact this
theorem newV_in {k d v s : Int} (hk : 0 ≤ k) (hkd : k < d) (hd : d < s) (hv : 0 ≤ v ∧ v < s) : 0 ≤ newV k d v ∧ newV k d v < s - 1 := by
 unfold newV
 split <;> split <;> omega
theorem merge_gr {r s k d : Int} {es : List Ed} (h : isGr r s es = true) (hk : 0 ≤ k) (hkd : k < d) (hd : d < s) : isGr r (s - 1) (mergeE k d es) = true := by
 obtain ⟨_, h1, h2, h3, h4, h5⟩ := isGr_iff.1 h
 have hl := mergeE_length k d es
 refine gr_of_asc (by rw [mergeE_put]; exact put_asc _) (fun e he => ?_) ⟨h1, h2⟩ (by omega) (by omega)
 rw [mergeE_put, put_mem] at he
 obtain ⟨x, hx, rfl⟩ := List.mem_map.1 he
 obtain ⟨g1, g2, g3⟩ := gr_edge h hx
 exact ⟨newV_in hk hkd hd g1, newV_in hk hkd hd g2, g3⟩
theorem okM_iff {r s : Int} {es : List Ed} {f : tupF} : okM r s es f = true ↔ isGr r s es = true ∧ 0 ≤ f.1 ∧ f.1 < f.2 ∧ f.2 < s := by
 unfold okM
 rw [Bool.and_eq_true, decide_eq_true_eq]
theorem row_mem {es : List Ed} {i : Nat} {f : tupF} : ∀ d, f ∈ rowF es i d → ∃ j, j < d ∧ f ∈ pairF (es.getD i e0) (es.getD (i + 1 + j) e0) := by
 intro d
 induction d with
 | zero => intro h; simp [rowF] at h
 | succ d ih =>
  intro h
  rw [rowF, List.mem_append] at h
  rcases h with h | h
  · obtain ⟨j, hj, hf⟩ := ih h
    exact ⟨j, by omega, hf⟩
  · exact ⟨d, by omega, h⟩
theorem all_mem {es : List Ed} {f : tupF} : ∀ n, n ≤ es.length → f ∈ allF es n → ∃ i j, i < j ∧ j < es.length ∧ f ∈ pairF (es.getD i e0) (es.getD j e0) := by
 intro n
 induction n with
 | zero => intro _ h; simp [allF] at h
 | succ n ih =>
  intro hn h
  rw [allF, List.mem_append] at h
  rcases h with h | h
  · exact ih (by omega) h
  · obtain ⟨j, hj, hf⟩ := row_mem _ h
    exact ⟨n, n + 1 + j, by omega, by omega, hf⟩
theorem asc_lt {es : List Ed} (h : AscE es) {i j : Nat} (hij : i < j) (hj : j < es.length) : cmpE (es.getD i e0) (es.getD j e0) < 0 := by
 rw [getE_el (show i < es.length by omega), getE_el hj]
 exact (List.pairwise_iff_getElem.1 h) i j (by omega) hj hij
theorem folds_ok {r s : Int} {es : List Ed} (h : isGr r s es = true) {f : tupF} (hf : f ∈ foldsF es) : okM r s es f = true := by
 obtain ⟨i, j, hij, hj, hm⟩ := all_mem es.length (Nat.le_refl _) hf
 have hc := asc_lt (asc_of_gr h) hij hj
 rw [frc_pair hc] at hm
 have hi := gr_edge h (List.getElem_mem (show i < es.length by omega))
 have hjj := gr_edge h (List.getElem_mem hj)
 rw [← getE_el] at hi hjj
 generalize es.getD i e0 = a at hm hc hi
 generalize es.getD j e0 = b at hm hc hjj
 by_cases hb : frcB a b = true
 · rw [if_pos hb] at hm
   rw [List.mem_singleton] at hm
   subst hm
   refine okM_iff.2 ⟨h, ?_⟩
   obtain ⟨f, l, t⟩ := a
   obtain ⟨f', l', t'⟩ := b
   have hlt : f < f' ∨ f = f' ∧ (l < l' ∨ l = l' ∧ t < t') := by
    unfold cmpE at hc
    repeat' split at hc
    all_goals (simp only at *; omega)
   unfold frcB at hb
   simp only [Bool.and_eq_true, Bool.or_eq_true, decide_eq_true_eq] at hb
   unfold frcF
   simp only at hi hjj ⊢
   rw [if_pos hb.1]
   by_cases hff : f = f'
   · rw [if_pos hff]
     simp only
     omega
   · rw [if_neg hff, if_pos (by omega)]
     simp only
     omega
 · rw [if_neg hb] at hm
   simp at hm
theorem fold_s {r s : Int} {es : List Ed} {f : tupF} (h : okM r s es f = true) : mrS r s es f = s - 1 := by unfold mrS; rw [if_pos h]
theorem fold_e {r s : Int} {es : List Ed} {f : tupF} (h : okM r s es f = true) : mrE r s es f = mergeE f.1 f.2 es := by unfold mrE; rw [if_pos h]
def pfL (r s : Int) (es : List Ed) : List tupF := if isGr r s es = true then foldsF es else []
def BoxE (w : World) (X : Nat) (f l t : Int) : Prop := w.cell? ⟨X, 0, none⟩ = some (.int .i64 f) ∧ w.cell? ⟨X, 1, none⟩ = some (.int .i64 l) ∧ w.cell? ⟨X, 2, none⟩ = some (.int .i64 t)
theorem BoxE.below {w w' : World} {X B : Nat} {f l t : Int} (h : BoxE w X f l t) (hb : Below B w w') (hX : X < B) : BoxE w' X f l t :=
 ⟨below_cell h.1 hb hX, below_cell h.2.1 hb hX, below_cell h.2.2 hb hX⟩
theorem BoxE.grown {w w' : World} {O : Obj} {v : Value} {X : Nat} {f l t : Int} (h : BoxE w X f l t) (hg : (w.alloc O).grownBy w' v.ownBlock) (hX : X < w.heap.size) (hne : v.ownBlock ≠ some X) : BoxE w' X f l t :=
 ⟨grown_cell h.1 hg hX hne, grown_cell h.2.1 hg hX hne, grown_cell h.2.2 hg hX hne⟩
set_option maxRecDepth 100000 in
set_option maxHeartbeats 6400000 in
theorem progFolds (w : World) (r s : Int) (v : Value) (es : List Ed) (h : ReadE w.heap.size w v es) (hl : es.length ≤ 100000000) :
 Calls Tryz.prog 195 #[.agg #[.int .i64 r, .int .i64 s, v]] w (LwFolds w (pfL r s es)) := by
 obtain ⟨a, cap, rfl, hnc⟩ := h.form
 obtain ⟨n, hn⟩ := exq es.length
 rw [← hn] at hl hnc ⊢
 rw [← hn] at h
 obtain ⟨w1, hw1⟩ := exq (w.alloc (.cells #[.int .i64 r, .int .i64 s, .slice a n cap] 26))
 have hb1 : Below w.heap.size w w1 := by rw [hw1]; exact (Below.refl _ _).alloc (Nat.le_refl _) _
 have hs1 : w1.heap.size = w.heap.size + 1 := by rw [hw1]; simp
 have hc := progIsGr w1 r s (.slice a n cap) es ((h.below hb1).mono hb1.size) (by omega)
 obtain ⟨B, hB⟩ := exq (isGr r s es)
 rw [← hB] at hc
 obtain ⟨g0, g1, g2⟩ := box3 hw1
 obtain ⟨R, hRR⟩ := exq (pfL r s es)
 rw [← hRR]
 have hRf : B = false → R = [] := fun h => by rw [hRR]; unfold pfL; rw [← hB, h]; rfl
 have hRt : B = true → R = foldsF es := fun h => by rw [hRR]; unfold pfL; rw [← hB, h]; rfl
 replace hRf := hidI hRf
 replace hRt := hidI hRt
 replace hRR := hidI hRR
 replace hn := hidI hn
 replace hw1 := hidI hw1
 replace h := hidI h
 replace hs1 := hidI hs1
 go_enter Tryz.func195, Tryz.ntmps195
 go_wp2_with fail
 rw [← hw1.out]
 refine hc.mono ?_
 rintro e w2 ⟨rfl, hb2⟩
 clear hc
 have hb12 := hb1.trans (hb2.mono hb1.size)
 cases B with
 | false =>
  have hR0 := hRf.out rfl
  have hr : LwFolds w R (.returned (.slice none 0 0)) w2 := by
   rw [hR0]
   exact ⟨none, 0, rfl, (OwnsS.nil (T := 167) (sz := 2) w2 w.heap.size).row (by simp), hb12⟩
  replace hr := hidI hr
  replace hR0 := hidI hR0
  replace hB := hidI hB
  go_wp2
  go_ret
  exact hr.out
 | true =>
 have hg := hidI hB.symm
 have hR1 := hidI (hRt.out rfl)
 replace hB := hidI hB
 have hasc := hidI (asc_of_gr hg.out)
 have hlim := hidI (isGr_iff.1 hg.out).2.2.2.2.2
 have hn120 : n ≤ 120 := by have := hlim.out; have := hn.out; omega
 replace g2 := below_cell g2 hb2 (by have := hs1.out; omega)
 clear g0 g1
 have hs2 : w.heap.size < w2.heap.size := by have := hs1.out; have := hb2.size; omega
 have hrd := hidI (h.out.below hb12)
 replace hb12 := hidI hb12
 have hA := hidI (fun k (hk : k ≤ es.length) => allF_length es k hk)
 have hRw := hidI (rowF_length es)
 have hown0 := hidI (OwnsS.nil (T := 167) (sz := 2) w2 w2.heap.size)
 clear hb2
 go_wp2
 go_loopg [3, 16] n (fun g o i wr => ∃ k : Nat, k + g = n ∧ i = .int .i64 k ∧ Hid (OwnsF wr w2.heap.size o (allF es k)) ∧ Hid (Below w2.heap.size w2 wr))
 case atStart => exact ⟨0, by omega, rfl, hown0, hidI (Below.refl _ _)⟩
 case round =>
  clear hown0
  obtain ⟨k, hk, rfl, hown, hb⟩ := hrel
  have p2 := below_cell g2 hb.out hs2
  obtain ⟨a3, m3, c3, rfl⟩ := hown.out.form3
  by_cases hlt : k < n
  · have hki : (k : Int) < (n : Int) := by omega
    have hread := hrd.out.below (hb.out.mono (Nat.le_of_lt hs2))
    obtain ⟨b, off, hab, hBb, x0, x1, x2⟩ := ReadE.at3 hread k (by have := hn.out; omega)
    subst hab
    obtain ⟨f, hf⟩ := exq ((es.getD k e0).1)
    obtain ⟨l, hll⟩ := exq ((es.getD k e0).2.1)
    obtain ⟨t, ht⟩ := exq ((es.getD k e0).2.2)
    rw [← hf] at x0
    rw [← hll] at x1
    rw [← ht] at x2
    have hke : es.getD k e0 = (f, l, t) := by rw [hf, hll, ht]
    obtain ⟨w3, hw3⟩ := exq (wr.alloc (.cells #[.int .i64 f, .int .i64 l, .int .i64 t] 72))
    have hb3 : Below wr.heap.size wr w3 := by rw [hw3]; exact (Below.refl _ _).alloc (Nat.le_refl _) _
    have hs3 : w3.heap.size = wr.heap.size + 1 := by rw [hw3]; simp
    have hbx : BoxE w3 wr.heap.size f l t := by obtain ⟨q0, q1, q2⟩ := box3 hw3; exact ⟨q0, q1, q2⟩
    obtain ⟨X, hX⟩ := exq wr.heap.size
    have hwlt := World.ownsRow.lt hown.out
    have hneX : Value.ownBlock (.slice a3 m3 c3) ≠ some X := fun e => by have := (hwlt _ e).2; omega
    have hown3 := hidI (show OwnsF w3 w2.heap.size (.slice a3 m3 c3) (allF es k ++ rowF es k 0) by rw [rowF, List.append_nil]; exact hown.out.later hb3 (Nat.le_refl _))
    have hbz := hidI (show Below w2.heap.size w2 w3 from hb.out.trans (hb3.mono hb.out.size))
    have p3 := below_cell p2 hb3 (by have := hb.out.size; omega)
    have hsX : w2.heap.size ≤ X := by have := hb.out.size; omega
    rw [← hX] at hbx hs3
    have hX3 := hidI (show X < w3.heap.size by omega)
    replace hsX := hidI hsX
    have hbx0 := hidI hbx
    have hneX0 := hidI hneX
    obtain ⟨M, hM⟩ := exq (n - (k + 1))
    have hkM : k + 1 + M = n := by omega
    have hcM : k + 1 ≤ cap := by omega
    have hMn : n - (k + 1) = M := hM.symm
    obtain ⟨c4, hc4⟩ : ∃ z, cap - (k + 1) = z := ⟨_, rfl⟩
    obtain ⟨o4, hAd, hA2⟩ : ∃ o4, (if cap = k + 1 then some (⟨b, off, none⟩ : Addr) else some ⟨b, off + (k + 1) * 3, none⟩) = some ⟨b, o4, none⟩ ∧ (0 < M → o4 = off + (k + 1) * 3) := by
     by_cases h : cap = k + 1
     · exact ⟨off, by rw [if_pos h], fun h0 => by omega⟩
     · exact ⟨off + (k + 1) * 3, by rw [if_neg h], fun _ => rfl⟩
    replace hA2 := hidI hA2
    replace hM := hidI hM
    replace hf := hidI hf
    replace hll := hidI hll
    replace ht := hidI ht
    replace hke := hidI hke
    replace hwlt := hidI hwlt
    replace hread := hidI hread
    replace hs3 := hidI hs3
    replace hk := hidI hk
    clear hneX hbx hown hb hb3
    go_upto_region 7 with fail
    rw [← hw3]
    replace hw3 := hidI hw3
    rw [← hX]
    replace hX := hidI hX
    clear p2 x0 x1 x2
    go_wp2
    clear p3
    go_loopg [3, 27] M (fun g o i wr => ∃ d : Nat, d + g = M ∧ i = .int .i64 d ∧ Hid (OwnsF wr w2.heap.size o (allF es k ++ rowF es k d)) ∧ Hid (Below w2.heap.size w2 wr) ∧ Hid (BoxE wr X f l t ∧ X < wr.heap.size ∧ o.ownBlock ≠ some X))
    case atStart => exact ⟨0, by omega, rfl, hown3, hbz, hidI ⟨hbx0.out, hX3.out, hneX0.out⟩⟩
    case round =>
     clear hown3 hbz hbx0 hX3 hneX0
     obtain ⟨d, hd, rfl, hown, hb, hbx⟩ := hrel
     obtain ⟨a5, m5, c5, rfl⟩ := hown.out.form3
     by_cases hlt2 : d < M
     · have hdi : (d : Int) < (M : Int) := by omega
       have hread := hrd.out.below (hb.out.mono (Nat.le_of_lt hs2))
       obtain ⟨b', off', hab', hB', y0, y1, y2⟩ := ReadE.at3 hread (k + 1 + d) (by have := hn.out; omega)
       simp only [Option.some.injEq, Addr.mk.injEq, and_true] at hab'
       obtain ⟨rfl, rfl⟩ := hab'
       have hoff : off + (k + 1 + d) * 3 = o4 + d * 3 := by rw [hA2.out (by omega)]; omega
       obtain ⟨f', hf'⟩ : ∃ z, z = (es.getD (k + 1 + d) e0).1 := ⟨_, rfl⟩
       obtain ⟨l', hll'⟩ : ∃ z, z = (es.getD (k + 1 + d) e0).2.1 := ⟨_, rfl⟩
       obtain ⟨t', ht'⟩ : ∃ z, z = (es.getD (k + 1 + d) e0).2.2 := ⟨_, rfl⟩
       rw [← hf', hoff] at y0
       rw [← hll', hoff] at y1
       rw [← ht', hoff] at y2
       have hke' : es.getD (k + 1 + d) e0 = (f', l', t') := by rw [hf', hll', ht']
       have hpr := frc_pair (asc_lt hasc.out (show k < k + 1 + d by omega) (by have := hn.out; omega))
       rw [hke.out, hke'] at hpr
       have hnx : allF es k ++ rowF es k (d + 1) = (allF es k ++ rowF es k d) ++ pairF (f, l, t) (f', l', t') := by rw [rowF, List.append_assoc, hke.out, hke']
       rw [hpr] at hnx
       obtain ⟨L, hL⟩ := exq (allF es k ++ rowF es k d)
       have hLl : L.length ≤ 3000000 := by
        have h1 := hRw.out k d
        have h2 := hA.out k (by have := hn.out; omega)
        have h3 : k * es.length ≤ 120 * 120 := Nat.mul_le_mul (by omega) hlim.out
        rw [hL, List.length_append]
        omega
       rw [← hL] at hown hnx
       obtain ⟨w4, hw4⟩ := exq (wr.alloc (.cells #[.int .i64 f', .int .i64 l', .int .i64 t'] 72))
       have hb4 : Below wr.heap.size wr w4 := by rw [hw4]; exact (Below.refl _ _).alloc (Nat.le_refl _) _
       have hs4 : w4.heap.size = wr.heap.size + 1 := by rw [hw4]; simp
       obtain ⟨b0, b1, b2⟩ := box3 hw4
       obtain ⟨x0, x1, x2⟩ := hbx.out.1.below hb4 hbx.out.2.1
       have hcf := progForced w4 f l t f' l' t'
       obtain ⟨⟨kf, df⟩, hF⟩ : ∃ z, z = frcF (f, l, t) (f', l', t') := ⟨_, rfl⟩
       obtain ⟨C, hC⟩ := exq (frcB (f, l, t) (f', l', t'))
       rw [← hF, ← hC] at hcf hnx
       unfold LwFoldBool at hcf
       simp only at hcf
       replace hF := hidI hF
       replace hC := hidI hC
       replace hf' := hidI hf'
       replace hll' := hidI hll'
       replace ht' := hidI ht'
       replace hke' := hidI hke'
       replace hpr := hidI hpr
       replace hnx := hidI hnx
       replace hL := hidI hL
       replace hd := hidI hd
       replace hread := hidI hread
       replace hoff := hidI hoff
       have hwlt := hidI (World.ownsRow.lt hown.out)
       go_upto_region 10 with fail
       rw [← hw4]
       replace hw4 := hidI hw4
       clear y0 y1 y2
       go_wp2_with fail
       refine hcf.mono ?_
       rintro e w5 ⟨rfl, hb5⟩
       clear hcf x0 x1 x2 b0 b1 b2
       have hb45 := hb4.trans (hb5.mono (by omega))
       obtain ⟨w6, hw6⟩ := exq (w5.alloc (.cells #[.int .i64 kf, .int .i64 df] 167))
       have hb6 : Below w5.heap.size w5 w6 := by rw [hw6]; exact (Below.refl _ _).alloc (Nat.le_refl _) _
       have hs6 : w6.heap.size = w5.heap.size + 1 := by rw [hw6]; simp
       have hk6 : w6.heap[w5.heap.size]? = some (.cells #[.int .i64 kf, .int .i64 df] 167 (0, 0)) := by rw [hw6]; exact heap_alloc_new _ _
       have hb46 := hb45.trans (hb6.mono hb45.size)
       have hown6 := hidI (hown.out.later hb46 (Nat.le_refl _))
       have hbz6 := hidI (show Below w2.heap.size w2 w6 from hb.out.trans (hb46.mono hb.out.size))
       have hX6 : X < w6.heap.size := by have := hbx.out.2.1; have := hb46.size; omega
       have hbx6 := hidI (show BoxE w6 X f l t ∧ X < w6.heap.size ∧ Value.ownBlock (.slice a5 m5 c5) ≠ some X from ⟨hbx.out.1.below hb46 hbx.out.2.1, hX6, hbx.out.2.2⟩)
       have z0 : w6.cell? ⟨w5.heap.size, 0, none⟩ = some (.int .i64 kf) := by simpa using cell_of_heap hk6 0
       have z1 : w6.cell? ⟨w5.heap.size, 1, none⟩ = some (.int .i64 df) := by simpa using cell_of_heap hk6 1
       clear hown hb hbx hb4 hb5 hb45 hb6 hb46 hk6
       replace hs4 := hidI hs4
       replace hs6 := hidI hs6
       go_upto_region 11 with fail
       rw [← hw6]
       replace hw6 := hidI hw6
       cases C with
       | false =>
        have hown9 := hidI (show OwnsF w6 w2.heap.size (.slice a5 m5 c5) (allF es k ++ rowF es k (d + 1)) by rw [hnx.out, if_neg (by simp), List.append_nil]; exact hown6.out)
        replace hC := hidI hC.out
        go_wp2
        go_roundg (M - (d + 1))
        case rel => exact ⟨d + 1, by have := hd.out; omega, by go_num, hown9, hbz6, hbx6⟩
        case measure => have := hd.out; omega
       | true =>
        have hnx2 := hidI (show allF es k ++ rowF es k (d + 1) = L ++ [(kf, df)] by rw [hnx.out, if_pos rfl])
        go_wp2_with (at_builtin; go_must (refine wpList_pushF_at rfl _ _ rfl w2.heap.size (.slice a5 m5 c5) L _ _ rfl rfl (by exact hown6.out) (by omega) hbz6.out.size ?_))
        intro v7 w7 hown7 hg7 hloc7
        obtain ⟨a7, m7, c7, rfl⟩ := hown7.form3
        have hbz7 := hidI (show Below w2.heap.size w2 w7 from (hbz6.out.alloc hbz6.out.size _).grown hg7 (by have := hbz6.out.size; simp; omega) (fun q hq => (World.ownsRow.lt hown6.out q hq).1))
        have hbx7 := hidI (show BoxE w7 X f l t ∧ X < w7.heap.size ∧ Value.ownBlock (.slice a7 m7 c7) ≠ some X from ⟨hbx6.out.1.grown hg7 hX6 hbx6.out.2.2, by have := hg7.size; simp at this; omega, fun e => by
         rcases hloc7 with h | h
         · exact hbx6.out.2.2 (h ▸ e)
         · rw [h] at e; simp at e; omega⟩)
        have hown9 := hidI (show OwnsF w7 w2.heap.size (.slice a7 m7 c7) (allF es k ++ rowF es k (d + 1)) by rw [hnx2.out]; exact hown7)
        clear hown7 hg7 hloc7
        go_wp2
        go_roundg (M - (d + 1))
        case rel => exact ⟨d + 1, by have := hd.out; omega, by go_num, hown9, hbz7, hbx7⟩
        case measure => have := hd.out; omega
     · have hdi : ¬ (d : Int) < (M : Int) := by omega
       obtain rfl : d = M := by omega
       have hown9 := hidI (show OwnsF wr w2.heap.size (.slice a5 m5 c5) (allF es (k + 1)) by rw [allF_next, ← hn.out, ← hM.out]; exact hown.out)
       replace hd := hidI hd
       go_wp2
       go_roundg (n - (k + 1))
       case rel => exact ⟨k + 1, by have := hk.out; omega, by go_num, hown9, hb⟩
       case measure => have := hk.out; omega
  · obtain rfl : k = n := by omega
    have hki : ¬ (k : Int) < (k : Int) := by omega
    have hr : LwFolds w R (.returned (.slice a3 m3 c3)) wr := by
     have hRl : R.length ≤ 4000000 := by
      have h2 := hA.out es.length (Nat.le_refl _)
      have h3 : es.length * es.length ≤ 120 * 120 := Nat.mul_le_mul hlim.out hlim.out
      rw [hR1.out]
      unfold foldsF
      omega
     have hown9 : OwnsF wr w2.heap.size (.slice a3 m3 c3) R := by rw [hR1.out]; unfold foldsF; rw [← hn.out]; exact hown.out
     have hrow := OwnsS.row hown9 (by omega)
     have hm := hrow.cap.1
     subst hm
     exact ⟨_, _, rfl, hrow.wide (Nat.le_of_lt hs2) (Nat.le_refl _), hb12.out.trans (hb.out.mono hb12.out.size)⟩
    replace hr := hidI hr
    replace hk := hidI hk
    go_wp2
    go_ret
    exact hr.out
theorem pf_len (r s : Int) (es : List Ed) : (pfL r s es).length ≤ 28800 := by
 unfold pfL
 split
 · rename_i h
   have h5 := (isGr_iff.1 h).2.2.2.2.2
   have h1 := foldsF_length es
   have : es.length * es.length ≤ 120 * 120 := Nat.mul_le_mul h5 h5
   omega
 · simp
theorem chN_lt {cs : List Int} {i n : Nat} (h : 0 < n) : chN cs i n < n := by
 unfold chN
 split
 · rename_i hh
   have h1 : cs.getD i 0 % (n : Int) < n := Int.emod_lt_of_pos _ (by omega)
   have h2 : 0 ≤ cs.getD i 0 % (n : Int) := Int.emod_nonneg _ (by omega)
   omega
 · exact h
theorem getF_mem {l : List tupF} {i : Nat} (h : i < l.length) : l.getD i zeroF ∈ l := by
 rw [List.getD_eq_getElem?_getD, List.getElem?_eq_getElem h]
 exact List.getElem_mem h
theorem or_step {r s : Int} {es : List Ed} {cs : List Int} {i : Nat} (h : (foldsF (orN r s es cs i).es).length ≠ 0) :
 orN r s es cs (i + 1) = ⟨mrS r (orN r s es cs i).s (orN r s es cs i).es ((foldsF (orN r s es cs i).es).getD (chN cs i (foldsF (orN r s es cs i).es).length) zeroF),
  mrE r (orN r s es cs i).s (orN r s es cs i).es ((foldsF (orN r s es cs i).es).getD (chN cs i (foldsF (orN r s es cs i).es).length) zeroF),
  (orN r s es cs i).l ++ [(foldsF (orN r s es cs i).es).getD (chN cs i (foldsF (orN r s es cs i).es).length) zeroF]⟩ := by
 rw [orN, if_neg h]
theorem or_gr {r s : Int} {es : List Ed} {cs : List Int} (hg : isGr r s es = true) : ∀ i, isGr r (orN r s es cs i).s (orN r s es cs i).es = true := by
 intro i
 induction i with
 | zero => exact hg
 | succ i ih =>
  by_cases h : (foldsF (orN r s es cs i).es).length = 0
  · rw [orN, if_pos h]; exact ih
  · rw [or_step h]
    have hf := folds_ok ih (getF_mem (chN_lt (cs := cs) (i := i) (Nat.pos_of_ne_zero h)))
    simp only
    rw [fold_s hf, fold_e hf]
    obtain ⟨_, h1, h2, h3⟩ := okM_iff.1 hf
    exact merge_gr ih h1 h2 h3
theorem or_count {r s : Int} {es : List Ed} {cs : List Int} (hg : isGr r s es = true) : ∀ i, (∀ j, j < i → (foldsF (orN r s es cs j).es).length ≠ 0) → (orN r s es cs i).l.length = i ∧ (orN r s es cs i).s = s - i := by
 intro i
 induction i with
 | zero => intro _; exact ⟨rfl, by simp [orN]⟩
 | succ i ih =>
  intro h
  obtain ⟨h1, h2⟩ := ih (fun j hj => h j (by omega))
  have h0 := h i (by omega)
  have hf := folds_ok (or_gr (cs := cs) hg i) (getF_mem (chN_lt (cs := cs) (i := i) (Nat.pos_of_ne_zero h0)))
  rw [or_step h0]
  simp only [List.length_append, List.length_singleton]
  rw [fold_s hf, h1, h2]
  exact ⟨rfl, by push_cast; omega⟩
theorem or_end {r s : Int} {es : List Ed} {cs : List Int} (hg : isGr r s es = true) {i : Nat} (h : ∀ j, j < i → (foldsF (orN r s es cs j).es).length ≠ 0) : i < 40 := by
 have h1 := (or_count hg i h).2
 have h2 := or_gr (cs := cs) hg i
 have h3 := (isGr_iff.1 h2).2.2.2.1
 have h4 := (isGr_iff.1 hg).2.2.2.2.1
 omega
theorem fo_stop {r s : Int} {es : List Ed} {cs : List Int} (hg : isGr r s es = true) {i : Nat} (h : ∀ j, j < i → (foldsF (orN r s es cs j).es).length ≠ 0) (h0 : (foldsF (orN r s es cs i).es).length = 0) :
 foS r s es cs = (orN r s es cs i).s ∧ foE r s es cs = (orN r s es cs i).es ∧ foL r s es cs = (orN r s es cs i).l := by
 have hi := or_end hg h
 have := orN_stop r s es cs h0 (40 - i)
 rw [show i + (40 - i) = 40 by omega] at this
 unfold foS foE foL
 rw [if_pos hg, if_pos hg, if_pos hg, this]
 exact ⟨rfl, rfl, rfl⟩
theorem fa_or {r s : Int} {es : List Ed} (hg : isGr r s es = true) : ∀ i, stN r s es i = orN r s es [] i := by
 intro i
 induction i with
 | zero => rfl
 | succ i ih =>
  have hgi := or_gr (cs := []) hg i
  by_cases h : (foldsF (orN r s es [] i).es).length = 0
  · rw [stN, orN, if_pos h, ih]
    have : ffB r (orN r s es [] i).s (orN r s es [] i).es = false := by unfold ffB; rw [h]; simp
    rw [this]; simp
  · rw [stN, or_step h, ih]
    have hb : ffB r (orN r s es [] i).s (orN r s es [] i).es = true := by unfold ffB; rw [hgi]; simp [h]
    have hc : chN [] i (foldsF (orN r s es [] i).es).length = 0 := by unfold chN; simp
    rw [if_pos hb, hc]
    unfold onS onE ffF
    rw [if_pos hb, if_pos hb, if_pos hb]
theorem fa_fo (r s : Int) (es : List Ed) : faS r s es = foS r s es [] ∧ faE r s es = foE r s es [] ∧ faL r s es = foL r s es [] := by
 unfold faS faE faL foS foE foL
 cases hg : isGr r s es with
 | true =>
  rw [fa_or hg 40]
  exact ⟨by simp, by simp, by simp⟩
 | false =>
  have h0 : ffB r (stN r s es 0).s (stN r s es 0).es = false := by show ffB r s es = false; unfold ffB; rw [hg]; rfl
  have := stN_stop r s es h0 40
  rw [Nat.zero_add] at this
  rw [this]
  exact ⟨by simp [stN], by simp [stN], by simp [stN]⟩
theorem foE_length (r s : Int) (es : List Ed) (cs : List Int) : (foE r s es cs).length ≤ es.length := by
 unfold foE
 split
 · exact (orN_len r s es cs 40).1
 · exact Nat.le_refl _
end Go.Proofs.YtpjlamnjiilgbaaGreat
