import Derived.Deep.LoopGhost
import Derived.Test.YtpjlamnjiilgbaaGreatJ14Is
import Derived.Test.YtpjlamnjiilgbaaGreatJ15Is
namespace Go.Proofs.YtpjlamnjiilgbaaGreat
open Go.RowKit
set_option linter.unusedVariables false
set_option linter.unusedSimpArgs false
theorem upN_succ (k : Nat) : upN (k + 1) = upN k ++ [(k : Int)] := by simp [upN, List.range_succ]
theorem tm_no' {r s : Int} {es : List Ed} (h : isGr r s es = false) : tmS r s es = s ∧ tmE r s es = es ∧ tmL r s es = [] := by
 unfold tmS tmE tmL
 rw [h]
 exact ⟨rfl, rfl, rfl⟩
def OW2 (w : World) (base : Nat) (vo : Value) (O : List Int) (vn : Value) (N : List Int) : Prop :=
 OwnsI w base vo O ∧ OwnsI w base vn N ∧ ∀ k, vo.ownBlock = some k → vn.ownBlock ≠ some k
theorem OW2.fst {w w' : World} {base : Nat} {vo vo' vn : Value} {O N : List Int} {z : Int} (h : OW2 w base vo O vn N) (ho : OwnsI w' base vo' (O ++ [z]))
 (hg : (w.alloc (.cells #[.int .i64 z] 3)).grownBy w' vo.ownBlock) (hv : vo'.ownBlock = vo.ownBlock ∨ vo'.ownBlock = some (w.heap.size + 1)) : OW2 w' base vo' (O ++ [z]) vn N := by
 have hlt := World.ownsRow.lt h.2.1
 have hb := (Below.refl w.heap.size w).alloc (Nat.le_refl _) (.cells #[.int .i64 z] 3)
 refine ⟨ho, ownI_other h.2.1 (fun k hk => ?_), fun k hk hn => ?_⟩
 · have hkl := (hlt k hk).2
   rw [hg.block k (by simp; omega) (fun e => h.2.2 k e.symm hk)]
   exact hb.block k hkl
 · rcases hv with e | e
   · exact h.2.2 k (e ▸ hk) hn
   · rw [e] at hk
     have h1 : w.heap.size + 1 = k := by simpa using hk
     have := (hlt k hn).2
     omega
theorem OW2.symm {w : World} {base : Nat} {vo vn : Value} {O N : List Int} (h : OW2 w base vo O vn N) : OW2 w base vn N vo O := ⟨h.2.1, h.1, fun k hk hn => h.2.2 k hn hk⟩
theorem OW2.snd {w w' : World} {base : Nat} {vo vn vn' : Value} {O N : List Int} {z : Int} (h : OW2 w base vo O vn N) (ho : OwnsI w' base vn' (N ++ [z]))
 (hg : (w.alloc (.cells #[.int .i64 z] 3)).grownBy w' vn.ownBlock) (hv : vn'.ownBlock = vn.ownBlock ∨ vn'.ownBlock = some (w.heap.size + 1)) : OW2 w' base vo O vn' (N ++ [z]) := (h.symm.fst ho hg hv).symm
theorem OW2.lits (w : World) : OW2 ((w.alloc (.cells #[] 3)).alloc (.cells #[] 3)) w.heap.size (.slice (some ⟨w.heap.size, 0, none⟩) 0 0) [] (.slice (some ⟨(w.alloc (.cells #[] 3)).heap.size, 0, none⟩) 0 0) [] := by
 refine ⟨World.ownsRow.alloc (OwnsI.lit w) _, (OwnsI.lit (w.alloc (.cells #[] 3))).mono (by simp), fun k hk hn => ?_⟩
 have h1 : w.heap.size = k := by simpa [Value.ownBlock] using hk
 have h2 : (w.alloc (.cells #[] 3)).heap.size = k := by simpa [Value.ownBlock] using hn
 simp at h2; omega
def TrMem (w : World) (X base : Nat) (r : Int) (x : TrSt) (u : Value) : Prop :=
 ∃ (ac : Option Addr) (cc glo ghi flo fhi : Nat), w.heap[X]? = some (.cells #[.int .i64 r, .int .i64 x.s, .slice ac x.es.length cc] 26 (0, 0)) ∧
  RowS 72 3 w glo ghi (.slice ac x.es.length cc) x.es.length (flatE x.es) ∧ RowI w flo fhi u x.l ∧
  (base ≤ glo ∧ glo ≤ ghi ∧ ghi ≤ w.heap.size ∧ base ≤ flo ∧ flo ≤ fhi ∧ fhi ≤ w.heap.size ∧ (ghi ≤ flo ∨ fhi ≤ glo) ∧ base ≤ X ∧ X < w.heap.size ∧ (ghi ≤ X ∨ X < glo) ∧ X < flo)
theorem TrMem.below {w w' : World} {X base : Nat} {r : Int} {x : TrSt} {u : Value} (h : TrMem w X base r x u) (hb : Below w.heap.size w w') : TrMem w' X base r x u := by
 obtain ⟨ac, cc, glo, ghi, flo, fhi, h1, h2, h3, h4⟩ := h
 have := hb.size
 exact ⟨ac, cc, glo, ghi, flo, fhi, (hb.block X (by omega)).trans h1, h2.below hb (by omega), h3.below hb (by omega), by omega⟩
set_option maxRecDepth 100000 in
set_option maxHeartbeats 6400000 in
theorem specTrim (w : World) (r s : Int) (v : Value) (es : List Ed) (h : ReadE w.heap.size w v es) (hs : -9223372036854775808 ≤ s ∧ s ≤ 9223372036854775807) (hl : es.length ≤ 10000000) :
 Calls Tryz.prog 135 #[.agg #[.int .i64 r, .int .i64 s, v]] w (LwGraphInts w r (tmS r s es) (tmE r s es) (tmL r s es)) := by
 obtain ⟨a, cap, rfl, hnc⟩ := h.form
 obtain ⟨n, hn⟩ := exq es.length
 rw [← hn] at h
 rw [← hn] at hl hnc ⊢
 obtain ⟨w1, hw1⟩ := exq ((w.alloc (.cells #[.int .i64 r, .int .i64 s, .slice a n cap] 26)).alloc (.cells #[.int .i64 0, .int .i64 0, .slice none 0 0] 26))
 have hb1 : Below w.heap.size w w1 := by rw [hw1]; exact ((Below.refl _ _).alloc (Nat.le_refl _) _).alloc (by simp) _
 have hs1 : w1.heap.size = w.heap.size + 1 + 1 := by rw [hw1]; simp
 have hg := heap_box w (.cells #[.int .i64 r, .int .i64 s, .slice a n cap] 26) (.cells #[.int .i64 0, .int .i64 0, .slice none 0 0] 26)
 have hR := heap_alloc_new (w.alloc (.cells #[.int .i64 r, .int .i64 s, .slice a n cap] 26)) (.cells #[.int .i64 0, .int .i64 0, .slice none 0 0] 26)
 rw [← hw1] at hg hR
 rw [show (w.alloc (.cells #[.int .i64 r, .int .i64 s, .slice a n cap] 26)).heap.size = w.heap.size + 1 by simp] at hR
 have g0 : w1.cell? ⟨w.heap.size, 0, none⟩ = some (.int .i64 r) := by simpa using cell_of_heap hg 0
 have g1 : w1.cell? ⟨w.heap.size, 1, none⟩ = some (.int .i64 s) := by simpa using cell_of_heap hg 1
 have g2 : w1.cell? ⟨w.heap.size, 2, none⟩ = some (.slice a n cap) := by simpa using cell_of_heap hg 2
 have hcopy := specCopy w1 r s (.slice a n cap) es (by have := (h.below hb1).mono hb1.size; rw [hn] at this ⊢; exact this) (by omega)
 have his := fun (W : World) (hr : ReadE W.heap.size W (.slice a n cap) es) => specIsGr W r s _ es hr hs (by omega)
 obtain ⟨B, hB⟩ := exq (isGr r s es)
 obtain ⟨ZS, hZS⟩ := exq (tmS r s es)
 obtain ⟨ZE, hZE⟩ := exq (tmE r s es)
 obtain ⟨ZL, hZL⟩ := exq (tmL r s es)
 rw [← hB] at his
 rw [← hZS, ← hZE, ← hZL]
 have hno : B = false → ZS = s ∧ ZE = es ∧ ZL = [] := fun hf => by rw [hZS, hZE, hZL]; exact tm_no' (by rw [← hB, hf])
 have hyes : B = true → ZS = (trN r s es 40).s ∧ ZE = (trN r s es 40).es ∧ ZL = (trN r s es 40).l := fun hf => by
  rw [hZS, hZE, hZL]; unfold tmS tmE tmL; rw [← hB, hf]; exact ⟨rfl, rfl, rfl⟩
 have hRk : ∀ W, Below w1.heap.size w1 W → W.heap[w.heap.size + 1]? = some (.cells #[.int .i64 0, .int .i64 0, .slice none 0 0] 26 (0, 0)) := fun W hW => by rw [hW.block _ (by omega)]; exact hR
 have hww := hidI hw1.symm
 have hb1' := hidI hb1
 have hrd := fun (W : World) (hW : Below w1.heap.size w1 W) => ((h.below (hb1.trans (hW.mono hb1.size))).mono (hb1.trans (hW.mono hb1.size)).size)
 have hfin0 : ∀ (W : World) (x : TrSt) (u : Value) (ac : Option Addr) (cc glo ghi flo fhi : Nat), Below w1.heap.size w1 W → x.s = ZS → x.es = ZE → x.l = ZL → RowS 72 3 W glo ghi (.slice ac x.es.length cc) x.es.length (flatE x.es) → RowI W flo fhi u x.l → (w1.heap.size ≤ glo ∧ glo ≤ ghi ∧ ghi ≤ W.heap.size ∧ w1.heap.size ≤ flo ∧ flo ≤ fhi ∧ fhi ≤ W.heap.size ∧ (ghi ≤ flo ∨ fhi ≤ glo)) →
  LwGraphInts w r ZS ZE ZL (.returned (.tuple #[.agg #[.int .i64 r, .int .i64 x.s, .slice ac x.es.length cc], u])) (((W.setCell ⟨w.heap.size + 1, 0, none⟩ (.int .i64 r)).setCell ⟨w.heap.size + 1, 1, none⟩ (.int .i64 x.s)).setCell ⟨w.heap.size + 1, 2, none⟩ (.slice ac x.es.length cc)) := by
  intro W x u ac cc glo ghi flo fhi hW e1 e2 e3 hr hi hd
  rw [← e1, ← e2, ← e3]
  exact ⟨ac, cc, u, glo, ghi, flo, fhi, rfl, by rw [size_set3]; omega, hr.set3_ (.inl (by omega)), hi.keep (fun k h1 h2 => heap_set3 (by omega)), below_set3 (hb1.trans (hW.mono hb1.size)) (by omega)⟩
 replace hfin0 := hidI hfin0
 replace hrd := hidI hrd
 replace his := hidI his
 replace hno := hidI hno
 replace hyes := hidI hyes
 replace hRk := hidI hRk
 replace hn := hidI hn
 replace h := hidI h
 replace hg := hidI hg
 replace hR := hidI hR
 replace hs1 := hidI hs1
 replace hZS := hidI hZS
 replace hZE := hidI hZE
 replace hZL := hidI hZL
 replace hw1 := hidI hw1
 go_enter Tryz.func135, Tryz.ntmps135
 go_upto_region 1 with fail
 rw [hww.out]
 go_wp2_with fail
 refine hcopy.mono ?_
 rintro e w2 ⟨ca, cc, rfl, hrow2, hb2⟩
 clear hcopy
 have hlt1 : w.heap.size + 1 < w1.heap.size := by have := hs1.out; omega
 have hsz2 := hb2.size
 rw [← hn.out]
 rw [← hn.out] at hrow2
 obtain ⟨w3, hw3⟩ := exq (w2.alloc (.cells #[.int .i64 0, .int .i64 0, .slice none 0 0] 26))
 have hb3 : Below w2.heap.size w2 w3 := by rw [hw3]; exact (Below.refl _ _).alloc (Nat.le_refl _) _
 have hX3 : w3.heap[w2.heap.size]? = some (.cells #[.int .i64 0, .int .i64 0, .slice none 0 0] 26 (0, 0)) := by rw [hw3]; exact heap_alloc_new _ _
 obtain ⟨X, hX⟩ := exq w2.heap.size
 obtain ⟨w4, hw4⟩ := exq (((w3.setCell ⟨X, 0, none⟩ (.int .i64 r)).setCell ⟨X, 1, none⟩ (.int .i64 s)).setCell ⟨X, 2, none⟩ (.slice ca n cc))
 rw [← hX] at hX3
 have hX4 : w4.heap[X]? = some (.cells #[.int .i64 r, .int .i64 s, .slice ca n cc] 26 (0, 0)) := by rw [hw4]; exact set3 hX3 _ _ _
 have hb4 : Below w2.heap.size w2 w4 := by rw [hw4, hX]; exact below_set3 hb3 (Nat.le_refl _)
 have hs4 : X < w4.heap.size := (Array.getElem?_eq_some_iff.1 hX4).1
 have hb14 : Below w1.heap.size w1 w4 := hb2.trans (hb4.mono hsz2)
 have hrow4 : RowS 72 3 w4 w1.heap.size w2.heap.size (.slice ca n cc) n (flatE es) := hrow2.below hb4 (Nat.le_refl _)
 obtain ⟨t0, t1, t2⟩ := cell3 hX3
 have ft := fun j => frozen_of_row w3 X j _ _ hX3
 simp at t0 t1 t2
 have hw3w := hidI hw3.symm
 have hw4w := hidI hw4.symm
 have hXw := hidI hX.symm
 have q0 := below_cell g0 hb14 (by omega)
 have q1 := below_cell g1 hb14 (by omega)
 have q2 := below_cell g2 hb14 (by omega)
 replace hw3 := hidI hw3
 replace hw4 := hidI hw4
 replace hX := hidI hX
 replace hX3 := hidI hX3
 replace hX4 := hidI hX4
 replace hb3 := hidI hb3
 replace hb4 := hidI hb4
 replace hb2 := hidI hb2
 replace hrow2 := hidI hrow2
 replace hrow4 := hidI hrow4
 replace hb14 := hidI hb14
 have q0' := q0
 have q1' := q1
 have q2' := q2
 have g0' := g0
 have g1' := g1
 have g2' := g2
 clear g0 g1 g2
 go_upto_region 2 with (first | rw [hw3w.out] | rw [hXw.out] | fail)
 try rw [hXw.out]
 rw [hw4w.out]
 clear t0 t1 t2 ft
 obtain ⟨w5, hw5⟩ := exq (w4.alloc (.cells #[] 3))
 have hb45 : Below w4.heap.size w4 w5 := by rw [hw5]; exact (Below.refl _ _).alloc (Nat.le_refl _) _
 have hlit : Hid (OwnsI w5 w4.heap.size (.slice (some ⟨w4.heap.size, 0, none⟩) 0 0) []) := hidI (by rw [hw5]; exact OwnsI.lit w4)
 have hs5 : w4.heap.size < w5.heap.size := by rw [hw5]; simp
 have hX5 := hidI ((hb45.block X hs4).trans hX4.out)
 have hb15 := hidI (hb14.out.trans (hb45.mono hb14.out.size))
 have hrow5 := hidI (hrow4.out.below hb45 (by have := hX.out; omega))
 have hsz14 := hb14.out.size
 have p0 := below_cell q0 hb45 (by omega)
 have p1 := below_cell q1 hb45 (by omega)
 have p2 := below_cell q2 hb45 (by omega)
 have hw5w := hidI hw5.symm
 replace hw5 := hidI hw5
 replace hb45 := hidI hb45
 go_upto_region 3 with fail
 rw [hw5w.out]
 clear q0 q1 q2
 cases B with
 | false =>
  obtain ⟨hZS0, hZE0, hZL0⟩ := hno.out rfl
  replace hZS0 := hidI hZS0
  replace hZE0 := hidI hZE0
  replace hZL0 := hidI hZL0
  replace hB := hidI hB
  go_wp2_with fail
  go_loopg [5, 6] 1 (fun g u i wr => g = 1 ∧ i = .int .i64 0 ∧ u = .slice (some ⟨w4.heap.size, 0, none⟩) 0 0 ∧ Hid (Below w5.heap.size w5 wr))
  case atStart => exact ⟨rfl, rfl, rfl, hidI (Below.refl _ _)⟩
  case round =>
   obtain ⟨hg0, rfl, rfl, hbo⟩ := hrel
   replace hg0 := hidI hg0
   have x0 := below_cell p0 hbo.out (by omega)
   have x1 := below_cell p1 hbo.out (by omega)
   have x2 := below_cell p2 hbo.out (by omega)
   by_cases h0s : 0 < s
   · have hco := his.out wr (hrd.out wr (hb15.out.trans (hbo.out.mono hb15.out.size)))
     go_wp2_with fail
     refine hco.mono ?_
     rintro e wx ⟨rfl, hbx⟩
     have hb5x := hidI (hbo.out.trans (hbx.mono hbo.out.size))
     clear hco x0 x1 x2
     go_wp2_with fail
     go_loopg [5, 7] 1 (fun g u i wr => g = 1 ∧ i = .int .i64 0 ∧ u = .slice (some ⟨w4.heap.size, 0, none⟩) 0 0 ∧ Hid (Below w5.heap.size w5 wr))
     case atStart => exact ⟨rfl, rfl, rfl, hb5x⟩
     case round =>
      obtain ⟨hg1, rfl, rfl, hb⟩ := hrel
      replace hg1 := hidI hg1
      have hb1r := hb15.out.trans (hb.out.mono hb15.out.size)
      have z0 := below_cell p0 hb.out (by omega)
      have z1 := below_cell p1 hb.out (by omega)
      have z2 := below_cell p2 hb.out (by omega)
      have hcc := his.out wr (hrd.out wr hb1r)
      replace hb1r := hidI hb1r
      go_wp2_with fail
      refine hcc.mono ?_
      rintro e w7 ⟨rfl, hb7⟩
      clear hcc
      have hb57 := hb.out.trans (hb7.mono hb.out.size)
      have hb17 := hb15.out.trans (hb57.mono hb15.out.size)
      have hX7 := (hb57.block X (by omega)).trans hX5.out
      have hR7 := hRk.out w7 hb17
      obtain ⟨c0, c1, c2⟩ := cell3 hX7
      obtain ⟨y0, y1, y2⟩ := cell3 hR7
      have f2 := fun j => frozen_of_row w7 (w.heap.size + 1) j _ _ hR7
      simp at y0 y1 y2 c0 c1 c2
      have hrow7 : RowS 72 3 w7 w1.heap.size w2.heap.size (.slice ca n cc) n (flatE es) := hrow5.out.below hb57 (by have := hX.out; omega)
      have hlit7 : RowI w7 w4.heap.size w5.heap.size (.slice (some ⟨w4.heap.size, 0, none⟩) 0 0) [] := (OwnsI.row hlit.out (by simp)).below hb57 (Nat.le_refl _)
      have hfin := hfin0.out w7 ⟨s, es, []⟩ (.slice (some ⟨w4.heap.size, 0, none⟩) 0 0) ca cc w1.heap.size w2.heap.size w4.heap.size w5.heap.size hb17 hZS0.out.symm hZE0.out.symm hZL0.out.symm (by show RowS _ _ _ _ _ (.slice ca es.length cc) es.length _; rw [← hn.out]; exact hrow7) hlit7 (by have := hX.out; have := hb57.size; omega)
      have hfin2 : LwGraphInts w r ZS ZE ZL (.returned (.tuple #[.agg #[.int .i64 r, .int .i64 s, .slice ca n cc], .slice (some ⟨w4.heap.size, 0, none⟩) 0 0])) (((w7.setCell ⟨w.heap.size + 1, 0, none⟩ (.int .i64 r)).setCell ⟨w.heap.size + 1, 1, none⟩ (.int .i64 s)).setCell ⟨w.heap.size + 1, 2, none⟩ (.slice ca n cc)) := by
       rw [hn.out]; exact hfin
      have hset := set3 hR7 (.int .i64 r) (.int .i64 s) (.slice ca n cc)
      clear hfin
      replace hfin2 := hidI hfin2
      replace hset := hidI hset
      replace hR7 := hidI hR7
      replace hX7 := hidI hX7
      replace hrow7 := hidI hrow7
      replace hlit7 := hidI hlit7
      replace hb57 := hidI hb57
      replace hb17 := hidI hb17
      clear z0 z1 z2
      go_wp2
      (try simp only [Exit.inBlock, Exit.then])
      refine ret_cell2 (x := .slice (some ⟨w4.heap.size, 0, none⟩) 0 0) rfl rfl rfl hset.out Tryz.underlying26 sizeGraph ?_
      exact hfin2.out
   · skip
     go_wp2_with fail
     go_loopg [5, 7] 1 (fun g u i wr => g = 1 ∧ i = .int .i64 0 ∧ u = .slice (some ⟨w4.heap.size, 0, none⟩) 0 0 ∧ Hid (Below w5.heap.size w5 wr))
     case atStart => exact ⟨rfl, rfl, rfl, hbo⟩
     case round =>
      obtain ⟨hg1, rfl, rfl, hb⟩ := hrel
      replace hg1 := hidI hg1
      have hb1r := hb15.out.trans (hb.out.mono hb15.out.size)
      have z0 := below_cell p0 hb.out (by omega)
      have z1 := below_cell p1 hb.out (by omega)
      have z2 := below_cell p2 hb.out (by omega)
      have hcc := his.out wr (hrd.out wr hb1r)
      replace hb1r := hidI hb1r
      go_wp2_with fail
      refine hcc.mono ?_
      rintro e w7 ⟨rfl, hb7⟩
      clear hcc
      have hb57 := hb.out.trans (hb7.mono hb.out.size)
      have hb17 := hb15.out.trans (hb57.mono hb15.out.size)
      have hX7 := (hb57.block X (by omega)).trans hX5.out
      have hR7 := hRk.out w7 hb17
      obtain ⟨c0, c1, c2⟩ := cell3 hX7
      obtain ⟨y0, y1, y2⟩ := cell3 hR7
      have f2 := fun j => frozen_of_row w7 (w.heap.size + 1) j _ _ hR7
      simp at y0 y1 y2 c0 c1 c2
      have hrow7 : RowS 72 3 w7 w1.heap.size w2.heap.size (.slice ca n cc) n (flatE es) := hrow5.out.below hb57 (by have := hX.out; omega)
      have hlit7 : RowI w7 w4.heap.size w5.heap.size (.slice (some ⟨w4.heap.size, 0, none⟩) 0 0) [] := (OwnsI.row hlit.out (by simp)).below hb57 (Nat.le_refl _)
      have hfin := hfin0.out w7 ⟨s, es, []⟩ (.slice (some ⟨w4.heap.size, 0, none⟩) 0 0) ca cc w1.heap.size w2.heap.size w4.heap.size w5.heap.size hb17 hZS0.out.symm hZE0.out.symm hZL0.out.symm (by show RowS _ _ _ _ _ (.slice ca es.length cc) es.length _; rw [← hn.out]; exact hrow7) hlit7 (by have := hX.out; have := hb57.size; omega)
      have hfin2 : LwGraphInts w r ZS ZE ZL (.returned (.tuple #[.agg #[.int .i64 r, .int .i64 s, .slice ca n cc], .slice (some ⟨w4.heap.size, 0, none⟩) 0 0])) (((w7.setCell ⟨w.heap.size + 1, 0, none⟩ (.int .i64 r)).setCell ⟨w.heap.size + 1, 1, none⟩ (.int .i64 s)).setCell ⟨w.heap.size + 1, 2, none⟩ (.slice ca n cc)) := by
       rw [hn.out]; exact hfin
      have hset := set3 hR7 (.int .i64 r) (.int .i64 s) (.slice ca n cc)
      clear hfin
      replace hfin2 := hidI hfin2
      replace hset := hidI hset
      replace hR7 := hidI hR7
      replace hX7 := hidI hX7
      replace hrow7 := hidI hrow7
      replace hlit7 := hidI hlit7
      replace hb57 := hidI hb57
      replace hb17 := hidI hb17
      clear z0 z1 z2
      go_wp2
      (try simp only [Exit.inBlock, Exit.then])
      refine ret_cell2 (x := .slice (some ⟨w4.heap.size, 0, none⟩) 0 0) rfl rfl rfl hset.out Tryz.underlying26 sizeGraph ?_
      exact hfin2.out
 | true =>
  obtain ⟨hZS1, hZE1, hZL1⟩ := hyes.out rfl
  have hgr := hidI hB.symm
  have hlim := isGr_lim hgr.out
  obtain ⟨sN, rfl⟩ : ∃ z : Nat, s = (z : Int) := ⟨s.toNat, by omega⟩
  have hsN : sN ≤ 40 := by omega
  have hn120 : n ≤ 120 := by have := hn.out; omega
  replace hlim := hidI hlim
  replace hZS1 := hidI hZS1
  replace hZE1 := hidI hZE1
  replace hZL1 := hidI hZL1
  replace hB := hidI hB
  have hst0 : Hid (OwnsI w5 w4.heap.size (.slice (some ⟨w4.heap.size, 0, none⟩) 0 0) (upN 0)) := hlit
  go_wp2_with fail
  go_loopg [5, 6] sN (fun g u i wr => ∃ k : Nat, k + g = sN ∧ i = .int .i64 k ∧ Hid (OwnsI wr w4.heap.size u (upN k)) ∧ Hid (Below w4.heap.size w4 wr))
  case atStart => exact ⟨0, by omega, rfl, hst0, hb45⟩
  case round =>
   clear hst0 hlit p0 p1 p2 hrow5 hX5
   obtain ⟨k, hk, rfl, hst, hbo⟩ := hrel
   have hb1o := hidI (hb14.out.trans (hbo.out.mono hb14.out.size))
   have hszo := hbo.out.size
   have x0 := below_cell q0' hbo.out (by omega)
   have x1 := below_cell q1' hbo.out (by omega)
   have x2 := below_cell q2' hbo.out (by omega)
   by_cases hlt : k < sN
   · have hki : (k : Int) < (sN : Int) := by omega
     have hco := his.out wr (hrd.out wr hb1o.out)
     replace hk := hidI hk
     go_wp2_with fail
     refine hco.mono ?_
     rintro e wx ⟨rfl, hbx⟩
     have hownx : OwnsI wx w4.heap.size u5 (upN k) := ownI_other hst.out (fun j hj => hbx.block j (World.ownsRow.lt hst.out j hj).2)
     have hb4x := hbo.out.trans (hbx.mono hszo)
     have hszx := hb4x.size
     have hbx4 := hidI hb4x
     have hul : (upN k).length ≤ 1000 := by rw [up_len]; omega
     have hus := upN_succ k
     obtain ⟨UK, hUK⟩ := exq (upN k)
     rw [← hUK] at hownx hul hus
     replace hownx := hidI hownx
     replace hUK := hidI hUK
     replace hus := hidI hus
     clear hco x0 x1 x2 hbx hb4x
     go_wp2_with (at_builtin; go_must (refine wpList_pushI rfl _ _ rfl w4.heap.size _ UK _ rfl rfl (by exact hownx.out) (by omega) (by omega) ?_))
     intro v' wy hownY hbY
     have hst7 : Hid (OwnsI wy w4.heap.size v' (upN (k + 1))) := hidI (by rw [hus.out]; exact hownY)
     have hb4y := hidI (hbx4.out.trans hbY)
     clear hownY hbY
     go_wp2
     go_roundg (sN - (k + 1))
     case rel => exact ⟨k + 1, by have := hk.out; omega, by go_num, hst7, hb4y⟩
     case measure => have := hk.out; omega
   · obtain rfl : k = sN := by omega
     have hki : ¬ (k : Int) < (k : Int) := by omega
     obtain ⟨wA, hwA⟩ := exq wr
     subst hwA
     have htm0 : Hid (TrMem wA X w1.heap.size r (trN r (k : Int) es 0) u5) := hidI (by
      have h1 : trN r (k : Int) es 0 = ⟨(k : Int), es, upN k⟩ := by show (⟨(k : Int), es, upN (k : Int).toNat⟩ : TrSt) = _; rw [Int.toNat_natCast]
      have hXe := hX.out
      rw [h1]
      refine ⟨ca, cc, w1.heap.size, w2.heap.size, w4.heap.size, wA.heap.size, ?_, ?_, OwnsI.row hst.out (by rw [up_len]; omega), ?_⟩
      · show _ = some (Obj.cells #[.int .i64 r, .int .i64 (k : Int), .slice ca es.length cc] _ _)
        rw [← hn.out]; exact (hbo.out.block X hs4).trans hX4.out
      · show RowS _ _ _ _ _ (.slice ca es.length cc) es.length _
        rw [← hn.out]; exact hrow4.out.below hbo.out (by omega)
      · omega)
     have hXA := hidI (show X < wA.heap.size by omega)
     replace hk := hidI hk
     go_wp2_with fail
     clear x0 x1 x2
     go_loopg [5, 7] 40 (fun g u i wr => ∃ j : Nat, j + g = 40 ∧ i = .int .i64 j ∧ Hid (TrMem wr X w1.heap.size r (trN r (k : Int) es j) u) ∧ Hid (Below w1.heap.size w1 wr))
     case atStart => exact ⟨0, by omega, rfl, htm0, hb1o⟩
     case round =>
      clear htm0
      obtain ⟨j, hj, rfl, htm, hbr⟩ := hrel
      have hszr := hbr.out.size
      have x0 := below_cell g0' hbr.out (by omega)
      have x1 := below_cell g1' hbr.out (by omega)
      have x2 := below_cell g2' hbr.out (by omega)
      have hmo := mo_all hgr.out j
      have hlen := trN_len r (k : Int) es j
      have hstop := fun h => trN_stop r (k : Int) es (i := j) h (40 - j)
      have hnext : trN r (k : Int) es (j + 1) = trS1 r (trN r (k : Int) es j) := rfl
      obtain ⟨xs, xe, xl, hx⟩ : ∃ a b c, trN r (k : Int) es j = ⟨a, b, c⟩ := ⟨_, _, _, rfl⟩
      rw [hx] at htm hmo hlen hstop hnext
      have hxs : xs = (xl.length : Int) := hmo.sz
      have hxl40 : xl.length ≤ 40 := by have h9 : xl.length ≤ (k : Int).toNat := hmo.sub.co.len; rw [Int.toNat_natCast] at h9; omega
      obtain ⟨sx, hsx⟩ := exq xl.length
      rw [← hsx] at hxs hxl40
      subst hxs
      have hxe : xe.length ≤ 120 := by have := hn.out; exact Nat.le_trans hlen (by omega)
      obtain ⟨ac, cx, glo, ghi, flo, fhi, hXr, hrowr, hleft, hd⟩ := htm.out
      simp only at hXr hrowr hleft
      obtain ⟨ne, hne⟩ := exq xe.length
      rw [← hne] at hXr hrowr hxe
      replace hmo := hidI hmo
      replace hlen := hidI hlen
      replace hx := hidI hx
      replace hsx := hidI hsx
      replace hne := hidI hne
      replace hnext := hidI hnext
      replace hstop := hidI hstop
      by_cases hlt2 : j < 40
      · have hji : (j : Int) < 40 := by omega
        have hco := his.out wr (hrd.out wr hbr.out)
        replace hj := hidI hj
        replace hXr := hidI hXr
        replace hrowr := hidI hrowr
        replace hleft := hidI hleft
        replace htm := hidI htm
        go_wp2_with fail
        refine hco.mono ?_
        rintro e w6 ⟨rfl, hb6⟩
        clear hco x0 x1 x2
        have hsz6 := hb6.size
        have hX6 := (hb6.block X (by omega)).trans hXr.out
        obtain ⟨c0, c1, c2⟩ := cell3 hX6
        simp at c0 c1 c2
        have hrow6 : RowS 72 3 w6 glo ghi (.slice ac ne cx) ne (flatE xe) := hrowr.out.below hb6 (by omega)
        have hrd6 : ReadE w6.heap.size w6 (.slice ac ne cx) xe := by rw [hne.out] at hrow6 ⊢; exact hrow6.read.mono (by omega)
        have hlf := specLeaf w6 r (sx : Int) (.slice ac ne cx) xe hrd6 (by omega) (by have := hne.out; omega)
        obtain ⟨f, hf⟩ := exq (lf r (sx : Int) xe)
        have hfor := lf_or r (sx : Int) xe
        have hst1 : f < 0 → trN r (k : Int) es 40 = ⟨(sx : Int), xe, xl⟩ := fun h => by
         have h2 := hstop.out (by rw [← hf]; exact h)
         rw [show j + (40 - j) = 40 by omega] at h2
         exact h2
        have hnx : ¬ f < 0 → trN r (k : Int) es (j + 1) = ⟨rnS r (sx : Int) xe (othN f sx), rnE r (sx : Int) xe (othN f sx), resN f xl sx⟩ := fun h => by
         rw [hnext.out]; unfold trS1
         simp only [Int.toNat_natCast]
         rw [← hf, if_neg h]
        rw [← hf] at hlf hfor
        have hb16 := hidI (hbr.out.trans (hb6.mono hszr))
        have hleft6 := hidI (hleft.out.below hb6 (by omega))
        replace hf := hidI hf
        replace hst1 := hidI hst1
        replace hnx := hidI hnx
        replace hX6 := hidI hX6
        replace hrow6 := hidI hrow6
        replace hrd6 := hidI hrd6
        clear hb6
        go_wp2_with fail
        refine hlf.mono ?_
        rintro e w7 ⟨rfl, hb7⟩
        clear hlf c0 c1 c2
        have hsz7 := hb7.size
        have hX7 := (hb7.block X (by omega)).trans hX6.out
        obtain ⟨c0, c1, c2⟩ := cell3 hX7
        simp at c0 c1 c2
        have hrow7 : RowS 72 3 w7 glo ghi (.slice ac ne cx) ne (flatE xe) := hrow6.out.below hb7 (by omega)
        have hleft7 := hleft6.out.below hb7 (by omega)
        have hb17 := hidI (hb16.out.trans (hb7.mono hb16.out.size))
        clear hb7
        by_cases hf0 : f < 0
        · have he := hst1.out (by omega)
          have hR7 := hRk.out w7 hb17.out
          obtain ⟨y0, y1, y2⟩ := cell3 hR7
          have f2 := fun j => frozen_of_row w7 (w.heap.size + 1) j _ _ hR7
          simp at y0 y1 y2
          have hfin := hfin0.out w7 ⟨(sx : Int), xe, xl⟩ u5 ac cx glo ghi flo fhi hb17.out (by rw [hZS1.out, he]) (by rw [hZE1.out, he]) (by rw [hZL1.out, he]) (by show RowS _ _ _ _ _ (.slice ac xe.length cx) xe.length _; rw [← hne.out]; exact hrow7) hleft7 (by omega)
          have hfin2 : LwGraphInts w r ZS ZE ZL (.returned (.tuple #[.agg #[.int .i64 r, .int .i64 (sx : Int), .slice ac ne cx], u5])) (((w7.setCell ⟨w.heap.size + 1, 0, none⟩ (.int .i64 r)).setCell ⟨w.heap.size + 1, 1, none⟩ (.int .i64 (sx : Int))).setCell ⟨w.heap.size + 1, 2, none⟩ (.slice ac ne cx)) := by
           rw [hne.out]; exact hfin
          have hset := set3 hR7 (.int .i64 r) (.int .i64 (sx : Int)) (.slice ac ne cx)
          clear hfin
          replace hfin2 := hidI hfin2
          replace hset := hidI hset
          replace hR7 := hidI hR7
          replace hX7 := hidI hX7
          replace hrow7 := hidI hrow7
          replace hleft7 := hidI hleft7
          replace he := hidI he
          go_wp2
          (try simp only [Exit.inBlock, Exit.then])
          refine ret_cell2 (x := u5) rfl rfl rfl hset.out Tryz.underlying26 sizeGraph ?_
          exact hfin2.out
        · have hnx2 := hnx.out (by omega)
          obtain ⟨p, rfl⟩ : ∃ z : Nat, f = (z : Int) := ⟨f.toNat, by omega⟩
          have hpx : p < sx := by omega
          have how0 := hidI (OW2.lits w7)
          have hblit : Hid (Below w7.heap.size w7 ((w7.alloc (.cells #[] 3)).alloc (.cells #[] 3))) := hidI (((Below.refl _ _).alloc (Nat.le_refl _) _).alloc (by simp) _)
          obtain ⟨wl1, hwl1⟩ := exq (w7.alloc (.cells #[] 3))
          rw [← hwl1] at how0 hblit
          obtain ⟨wl, hwl⟩ := exq (wl1.alloc (.cells #[] 3))
          rw [← hwl] at how0 hblit
          have hw1w := hidI hwl1.symm
          have hw2w := hidI hwl.symm
          have k0 := below_cell c0 hblit.out (by omega)
          have k1 := below_cell c1 hblit.out (by omega)
          have k2 := below_cell c2 hblit.out (by omega)
          replace hwl1 := hidI hwl1
          replace hwl := hidI hwl
          replace hnx2 := hidI hnx2
          replace hX7 := hidI hX7
          replace hrow7 := hidI hrow7
          replace hleft7 := hidI hleft7
          go_upto_region 14 with fail
          rw [hw1w.out]
          go_upto_region 15 with fail
          rw [hw2w.out]
          go_wp2_with fail
          go_loopg [9, 10, 11] sx (fun g o rr c wq => ∃ m : Nat, m + g = sx ∧ c = .int .i64 m ∧ Hid (OW2 wq w7.heap.size o (othN (p : Int) m) rr (resN (p : Int) xl m)) ∧ Hid (Below w7.heap.size w7 wq))
          case atStart => exact ⟨0, by omega, rfl, how0, hblit⟩
          case round =>
           clear how0 hblit k0 k1 k2
           obtain ⟨m, hm, rfl, how, hbq⟩ := hrel
           have hszq := hbq.out.size
           have k0 := below_cell c0 hbq.out (by omega)
           have k1 := below_cell c1 hbq.out (by omega)
           have k2 := below_cell c2 hbq.out (by omega)
           have hleftq := hleft7.out.below hbq.out (by omega)
           obtain ⟨_, la, lc, hlv, _, _⟩ := hleftq.read
           rw [← hsx.out] at hlv
           by_cases hlt3 : m < sx
           · have hmi : (m : Int) < (sx : Int) := by omega
             have hml := othN_length (p : Int) m
             have hml2 := resN_length (p : Int) xl m
             by_cases hmp : m = p
             · have ho1 : othN (p : Int) (m + 1) = othN (p : Int) m := by rw [othN, if_pos (by omega)]
               have ho2 : resN (p : Int) xl (m + 1) = resN (p : Int) xl m := by rw [resN, if_pos (by omega)]
               have hown : Hid (OW2 wr w7.heap.size u9 (othN (p : Int) (m + 1)) u10 (resN (p : Int) xl (m + 1))) := hidI (by rw [ho1, ho2]; exact how.out)
               have hmm : ((m : Int) != (p : Int)) = false := by rw [bne_eq_false_iff_eq]; omega
               replace ho1 := hidI ho1
               replace ho2 := hidI ho2
               replace hml2 := hidI hml2
               replace hm := hidI hm
               replace hleftq := hidI hleftq
               replace hlv := hidI hlv
               subst hmp
               go_wp2
               go_roundg (sx - (m + 1))
               case rel => exact ⟨m + 1, by have := hm.out; omega, by go_num, hown, hbq⟩
               case measure => have := hm.out; omega
             · have ho1 : othN (p : Int) (m + 1) = othN (p : Int) m ++ [(m : Int)] := by rw [othN, if_neg (by omega)]
               have ho2 : resN (p : Int) xl (m + 1) = resN (p : Int) xl m ++ [xl.getD m 0] := by rw [resN, if_neg (by omega)]
               have hmm : ((m : Int) != (p : Int)) = true := by rw [bne_iff_ne]; omega
               obtain ⟨y, hy⟩ := exq (xl.getD m 0)
               obtain ⟨O, hO⟩ := exq (othN (p : Int) m)
               obtain ⟨N, hN⟩ := exq (resN (p : Int) xl m)
               rw [← hO, ← hN] at how hml2
               rw [← hO] at hml
               rw [← hO] at ho1
               rw [← hN, ← hy] at ho2
               have hm2 := hidI hmp
               replace hm := hidI hm
               replace hO := hidI hO
               replace hN := hidI hN
               replace ho1 := hidI ho1
               replace ho2 := hidI ho2
               replace hy := hidI hy
               replace hml2 := hidI hml2
               replace hleftq := hidI hleftq
               replace hlv := hidI hlv
               clear hmp
               go_wp2_with (at_builtin; go_must (refine wpList_pushI_by rfl _ _ rfl w7.heap.size _ O _ rfl rfl (by exact how.out.1) (by omega) (by omega) ?_))
               intro v8 w8 hown8 hg8 hloc8
               have how8 := how.out.fst hown8 hg8 hloc8
               have hb78 : Below w7.heap.size w7 w8 := (hbq.out.alloc hszq _).grown hg8 (by simp; omega) (fun b hb => (World.ownsRow.lt how.out.1 b hb).1)
               have hsz8 := hb78.size
               have hleft8 := hleft7.out.below hb78 (by omega)
               have hlv2 := hlv.out
               subst hlv2
               obtain ⟨lb, lo, hab, hlb, hcl⟩ := hleft8.read.at2 m (by have := hsx.out; omega)
               subst hab
               rw [← hy.out] at hcl
               replace how8 := hidI how8
               replace hb78 := hidI hb78
               replace hleft8 := hidI hleft8
               clear hown8 hg8 hloc8 k0 k1 k2
               go_wp2_with (at_builtin; go_must (refine wpList_pushI_by rfl _ _ rfl w7.heap.size _ N _ rfl rfl (by exact how8.out.2.1) (by have := hml2.out; omega) (by omega) ?_))
               intro v9 w9 hown9 hg9 hloc9
               have how9 := how8.out.snd hown9 hg9 hloc9
               have hb79 := hidI ((hb78.out.alloc hsz8 _).grown hg9 (by simp; omega) (fun b hb => (World.ownsRow.lt how8.out.2.1 b hb).1))
               have hown : Hid (OW2 w9 w7.heap.size v8 (othN (p : Int) (m + 1)) v9 (resN (p : Int) xl (m + 1))) := hidI (by rw [ho1.out, ho2.out]; exact how9)
               clear hown9 hg9 hloc9 how9 hcl
               go_wp2
               go_roundg (sx - (m + 1))
               case rel => exact ⟨m + 1, by have := hm.out; omega, by go_num, hown, hb79⟩
               case measure => have := hm.out; omega
           · obtain rfl : m = sx := by omega
             have hmi : ¬ (m : Int) < (m : Int) := by omega
             have hml := othN_length (p : Int) m
             have hml2 := resN_length (p : Int) xl m
             have hrowO := OwnsI.row how.out.1 (by omega)
             have hrowN := OwnsI.row how.out.2.1 (by omega)
             have hrowq : RowS 72 3 wr glo ghi (.slice ac ne cx) ne (flatE xe) := hrow7.out.below hbq.out (by omega)
             have hrn := specRenum wr r (m : Int) (.slice ac ne cx) u9 xe (othN (p : Int) m) (by have := hrowq.read.mono (show ghi ≤ wr.heap.size by omega); rw [hne.out] at this ⊢; exact this) (by omega) (by have := hne.out; omega) hrowO.read (by omega)
             have hXq := (hbq.out.block X (by omega)).trans hX7.out
             have hrl := rnE_length r (m : Int) xe (othN (p : Int) m)
             obtain ⟨ZS2, hZS2⟩ := exq (rnS r (m : Int) xe (othN (p : Int) m))
             obtain ⟨ZE2, hZE2⟩ := exq (rnE r (m : Int) xe (othN (p : Int) m))
             obtain ⟨ZB2, hZB2⟩ := exq (okN r (m : Int) xe (othN (p : Int) m))
             rw [← hZS2, ← hZE2, ← hZB2] at hrn
             have hnx3 := hnx2.out
             rw [← hZS2, ← hZE2] at hnx3
             obtain ⟨NL, hNL⟩ := exq (resN (p : Int) xl m)
             rw [← hNL] at hnx3 hrowN
             replace hnx3 := hidI hnx3
             replace hNL := hidI hNL
             replace hZS2 := hidI hZS2
             replace hZE2 := hidI hZE2
             replace hZB2 := hidI hZB2
             replace hrl := hidI hrl
             replace hml2 := hidI hml2
             replace hm := hidI hm
             replace hleftq := hidI hleftq
             replace hlv := hidI hlv
             replace hrowO := hidI hrowO
             replace hrowN := hidI hrowN
             replace hrowq := hidI hrowq
             replace hXq := hidI hXq
             go_wp2_with fail
             refine hrn.mono ?_
             rintro e w8 ⟨ea, ec, rfl, hrow8, hb8⟩
             clear hrn
             have hsz8 := hb8.size
             have hX8 := (hb8.block X (by omega)).trans hXq.out
             obtain ⟨y0, y1, y2⟩ := cell3 hX8
             have f2 := fun j => frozen_of_row w8 X j _ _ hX8
             simp at y0 y1 y2
             have hset := set3 hX8 (.int .i64 r) (.int .i64 ZS2) (.slice ea ZE2.length ec)
             have htm9 : Hid (TrMem (((w8.setCell ⟨X, 0, none⟩ (.int .i64 r)).setCell ⟨X, 1, none⟩ (.int .i64 ZS2)).setCell ⟨X, 2, none⟩ (.slice ea ZE2.length ec)) X w1.heap.size r (trN r (k : Int) es (j + 1)) u10) := hidI (by
              rw [hnx3.out]
              exact ⟨ea, ec, wr.heap.size, w8.heap.size, w7.heap.size, wr.heap.size, hset, hrow8.set3_ (.inl (by omega)), (hrowN.out.below hb8 (Nat.le_refl _)).keep (fun b h1 h2 => heap_set3 (by omega)), by rw [size_set3]; omega⟩)
             have hb19 : Hid (Below w1.heap.size w1 (((w8.setCell ⟨X, 0, none⟩ (.int .i64 r)).setCell ⟨X, 1, none⟩ (.int .i64 ZS2)).setCell ⟨X, 2, none⟩ (.slice ea ZE2.length ec))) := hidI (below_set3 (hb17.out.trans ((hbq.out.trans (hb8.mono hszq)).mono hb17.out.size)) (by omega))
             replace hset := hidI hset
             replace hX8 := hidI hX8
             replace hrow8 := hidI hrow8
             replace hb8 := hidI hb8
             clear c0 c1 c2 k0 k1 k2
             go_wp2
             go_roundg (40 - (j + 1))
             case rel => exact ⟨j + 1, by have := hj.out; omega, by go_num, htm9, hb19⟩
             case measure => have := hj.out; omega
      · obtain rfl : j = 40 := by omega
        have hji : ¬ ((40 : Nat) : Int) < 40 := by omega
        have hR7 := hRk.out wr hbr.out
        obtain ⟨c0, c1, c2⟩ := cell3 hXr
        obtain ⟨y0, y1, y2⟩ := cell3 hR7
        have f2 := fun j => frozen_of_row wr (w.heap.size + 1) j _ _ hR7
        simp at y0 y1 y2 c0 c1 c2
        have hfin := hfin0.out wr ⟨(sx : Int), xe, xl⟩ u5 ac cx glo ghi flo fhi hbr.out (by rw [hZS1.out, hx.out]) (by rw [hZE1.out, hx.out]) (by rw [hZL1.out, hx.out]) (by show RowS _ _ _ _ _ (.slice ac xe.length cx) xe.length _; rw [← hne.out]; exact hrowr) hleft (by omega)
        have hfin2 : LwGraphInts w r ZS ZE ZL (.returned (.tuple #[.agg #[.int .i64 r, .int .i64 (sx : Int), .slice ac ne cx], u5])) (((wr.setCell ⟨w.heap.size + 1, 0, none⟩ (.int .i64 r)).setCell ⟨w.heap.size + 1, 1, none⟩ (.int .i64 (sx : Int))).setCell ⟨w.heap.size + 1, 2, none⟩ (.slice ac ne cx)) := by
         rw [hne.out]; exact hfin
        have hset := set3 hR7 (.int .i64 r) (.int .i64 (sx : Int)) (.slice ac ne cx)
        clear hfin
        replace hfin2 := hidI hfin2
        replace hset := hidI hset
        replace hR7 := hidI hR7
        replace hXr := hidI hXr
        replace hrowr := hidI hrowr
        replace hleft := hidI hleft
        replace htm := hidI htm
        replace hj := hidI hj
        clear x0 x1 x2
        go_wp2
        (try simp only [Exit.inBlock, Exit.then])
        refine ret_cell2 (x := u5) rfl rfl rfl hset.out Tryz.underlying26 sizeGraph ?_
        exact hfin2.out
end Go.Proofs.YtpjlamnjiilgbaaGreat
