import Derived.Test.YtpjlamnjiilgbaaGreatJ23Is
import Derived.Test.YtpjlamnjiilgbaaGreatJ7Is
import Derived.Test.YtpjlamnjiilgbaaGreatJ6Is
namespace Go.Proofs.YtpjlamnjiilgbaaGreat
open Go.RowKit Go.MuLone
set_option linter.unusedVariables false
set_option linter.unusedSimpArgs false
structure OnPG (S : Nat) (P : Nat → Nat) (G : Nat) (w w' : World) : Prop where
 os : w'.os = w.os
 tape : w'.tape = w.tape
 output : w'.output = w.output
 size : w.heap.size ≤ w'.heap.size
 block : ∀ b, b < w.heap.size → b ≠ G → (∀ i, i < S → b ≠ P i) → w'.heap[b]? = w.heap[b]?
theorem OnPG.refl (S : Nat) (P : Nat → Nat) (G : Nat) (w : World) : OnPG S P G w w := ⟨rfl, rfl, rfl, Nat.le_refl _, fun _ _ _ _ => rfl⟩
theorem OnPG.trans {S : Nat} {P : Nat → Nat} {G : Nat} {a b c : World} (h : OnPG S P G a b) (k : OnPG S P G b c) : OnPG S P G a c :=
 ⟨k.os.trans h.os, k.tape.trans h.tape, k.output.trans h.output, Nat.le_trans h.size k.size, fun i h1 h2 h3 => (k.block i (Nat.lt_of_lt_of_le h1 h.size) h2 h3).trans (h.block i h1 h2 h3)⟩
theorem OnPG.of_below {S : Nat} {P : Nat → Nat} {G : Nat} {w w' : World} (h : Below w.heap.size w w') : OnPG S P G w w' := ⟨h.os, h.tape, h.output, h.size, fun b hb _ _ => h.block b hb⟩
theorem OnPG.of_onP {S : Nat} {P : Nat → Nat} {G : Nat} {w w' : World} (h : OnP S P w w') : OnPG S P G w w' := ⟨h.os, h.tape, h.output, Nat.le_of_eq h.size.symm, fun b _ _ h3 => h.block b h3⟩
theorem OnPG.drew {S : Nat} {P : Nat → Nat} {G : Nat} {w : World} : OnPG S P G w w.drew := ⟨rfl, rfl, rfl, Nat.le_refl _, fun _ _ _ _ => rfl⟩
theorem OnPG.set {S : Nat} {P : Nat → Nat} {G : Nat} {w : World} (c : Nat) (v : Value) : OnPG S P G w (w.setCell ⟨G, c, none⟩ v) := ⟨rfl, rfl, rfl, by simp [World.setCell], fun b _ h2 _ => Below.heap_setCell _ _ _ _ h2⟩
theorem OnPG.of_grown {S : Nat} {P : Nat → Nat} {G : Nat} {w w' : World} (h : w.grownBy w' (some G)) : OnPG S P G w w' := ⟨h.os, h.tape, h.output, h.size, fun b hb h2 _ => h.block b hb (fun e => h2 (Option.some.inj e))⟩
theorem OnPG.cell {S : Nat} {P : Nat → Nat} {G : Nat} {w w' : World} {b j : Nat} {v : Value} (h : OnPG S P G w w') (hb : b < w.heap.size) (h2 : b ≠ G) (h3 : ∀ i, i < S → b ≠ P i) (hc : w.cell? ⟨b, j, none⟩ = some v) : w'.cell? ⟨b, j, none⟩ = some v :=
 (World.cell?_of_block (w := w) (a := ⟨b, j, none⟩) (h.block b hb h2 h3)).trans hc
theorem OnPG.below {S : Nat} {P : Nat → Nat} {G base : Nat} {w w' : World} (h : OnPG S P G w w') (hG : base ≤ G) (hP : ∀ i, i < S → base ≤ P i) (hB : base ≤ w.heap.size) : Below base w w' :=
 ⟨h.os, h.tape, h.output, h.size, fun k hk => h.block k (by omega) (by omega) (fun i hi => by have := hP i hi; omega)⟩
theorem flatE_zero (n : Nat) : flatE (List.replicate n e0) = List.replicate (n * 3) 0 := by
 induction n with
 | zero => rfl
 | succ n ih =>
  rw [List.replicate_succ, flatE, ih, show (n + 1) * 3 = n * 3 + 1 + 1 + 1 by omega, List.replicate_succ, List.replicate_succ, List.replicate_succ]
  rfl
theorem OwnsE.lay {w : World} {base g cap n i : Nat} {C : List Ed} {f l t : Int} (h : OwnsE w base (.slice (some ⟨g, 0, none⟩) n cap) C) (hn : C.length = n) (hi : i < n) :
 OwnsE (((w.setCell ⟨g, i * 3, none⟩ (.int .i64 f)).setCell ⟨g, i * 3 + 1, none⟩ (.int .i64 l)).setCell ⟨g, i * 3 + 2, none⟩ (.int .i64 t)) base (.slice (some ⟨g, 0, none⟩) n cap) (C.set i (f, l, t)) := by
 subst hn
 have hst := OwnsS.put (OwnsS.put (OwnsS.put h (i * 3) f) (i * 3 + 1) l) (i * 3 + 2) t
 have hfs := flatE_set C i (f, l, t) hi
 simp only at hfs
 rw [hfs] at hst
 unfold OwnsE
 rw [List.length_set]
 exact hst
def ResRet (D : MgD) (r s : Int) (ev : Value) (nm : Nat → Int) (K : Nat) (E : List Ed) (w : World) (e : Ending) (w' : World) : Prop :=
 ∃ a cap, e = .returned (.agg #[.int .i64 r, .int .i64 (K : Int), .slice a E.length cap]) ∧ RowS 72 3 w' w.heap.size w'.heap.size (.slice a E.length cap) E.length (flatE E) ∧ MgSt w' D r s ev nm K ∧ MgOff D w w'
set_option maxRecDepth 100000 in
set_option maxHeartbeats 6400000 in
theorem result_any (w : World) (D : MgD) (base : Nat) (r s : Int) (ev : Value) (es : List Ed) (nm : Nat → Int) (K : Nat) (h : MgSt w D r s ev nm K) (ho : MgOk D base w.heap.size) (hr : ReadE base w ev es) (hb0 : base ≤ w.heap.size) (hs : (D.S : Int) = s) (hgr : isGr r s es = true) :
 Calls Tryz.prog 194 #[.pointer (some ⟨D.Mb, 0, none⟩)] w (ResRet D r s ev nm K (resE nm es) w) := by
 obtain ⟨ea, ecap, rfl, hnc⟩ := hr.form
 obtain ⟨n, hn⟩ := exq es.length
 have hn120 : n ≤ 120 := by rw [hn]; exact (isGr_iff.1 hgr).2.2.2.2.2
 rw [← hn] at h hr hnc ⊢
 obtain ⟨hbox, hvs, cur, ls, num, par, dep, hls⟩ := h
 obtain ⟨i0, hi0, hz0, hz1, hz2⟩ := info_parts infoEdge
 obtain ⟨M, hM⟩ := exq D.Mb
 obtain ⟨G, hG⟩ := exq D.gl
 obtain ⟨cl, hcl⟩ := exq D.cl
 obtain ⟨V, hV⟩ := exq D.gv
 obtain ⟨cv, hcv⟩ := exq D.cv
 obtain ⟨S, hS⟩ := exq D.S
 obtain ⟨P, hP⟩ := exq D.P
 have hMl : M < w.heap.size := by rw [hM]; exact ho.mb.2
 have hGl : G < w.heap.size := by rw [hG]; exact ho.gl.2.1
 have hVl : V < w.heap.size := by rw [hV]; exact ho.gv.2.1
 have hGM : G ≠ M := by rw [hG, hM]; exact ho.gl.2.2.1
 have hVM : V ≠ M := by rw [hV, hM]; exact ho.gv.2.2
 have hMb : base ≤ M := by rw [hM]; exact ho.mb.1
 have hPp : ∀ i, i < S → base ≤ P i ∧ P i < w.heap.size ∧ P i ≠ M ∧ P i ≠ G ∧ P i ≠ V := fun i hi => by
  rw [hP, hM, hG, hV]; exact ho.p i (by rw [← hS]; exact hi)
 have hinj : ∀ i j, i < S → j < S → P i = P j → i = j := by rw [hS, hP]; exact ho.inj
 have hSs : (S : Int) = s := by rw [hS]; exact hs
 have hed : ∀ i, i < n → (0 ≤ (es.getD i e0).1 ∧ (es.getD i e0).1 < s) ∧ (0 ≤ (es.getD i e0).2.2 ∧ (es.getD i e0).2.2 < s) := fun i hi => by
  have hi' : i < es.length := by omega
  have := gr_edge hgr (List.getElem_mem hi')
  rw [← getE_el hi'] at this
  exact ⟨this.1, this.2.1⟩
 have hKS : K ≤ S := by rw [hS]; exact hls.kS
 have hS40 : S ≤ 40 := by rw [hS]; exact ho.s.2.1
 have hv0 : VSt w S P num par := by rw [hS, hP]; exact hls.vst
 have hl0 : LSt S nm par dep := by rw [hS]; exact hls.lst
 have hvs0 : ∀ i, i < S → w.cell? ⟨V, i, none⟩ = some (.pointer (some ⟨P i, 0, none⟩)) := fun i hi => by rw [hV, hP]; exact hvs i (by rw [← hS]; exact hi)
 have hroot : ∀ i, i < S → par i = none → num i = nm i := fun i hi hp => (hls.root i (by rw [← hS]; exact hi) hp).1
 unfold MgBox at hbox
 rw [← hM, ← hG, ← hcl, ← hV, ← hcv, ← hS] at hbox
 obtain ⟨w1, hw1⟩ := exq (w.alloc (.cells #[.int .i64 0, .int .i64 0, .slice none 0 0] 26))
 have hb1 : Below w.heap.size w w1 := by rw [hw1]; exact (Below.refl _ _).alloc (Nat.le_refl _) _
 have hs1 : w1.heap.size = w.heap.size + 1 := by rw [hw1]; simp
 have hR1 := heap_alloc_new w (.cells #[.int .i64 0, .int .i64 0, .slice none 0 0] 26)
 rw [← hw1] at hR1
 have hbox1 := (hb1.block M hMl).trans hbox
 have c3 : w1.cell? ⟨M, 3, none⟩ = some (.int .i32 0) := by simpa using cell_of_heap hbox1 3
 have f3 := frozen_of_row w1 M 3 _ _ hbox1
 obtain ⟨w2, hw2⟩ := exq (w1.setCell ⟨M, 3, none⟩ (.int .i32 1))
 have hbox2 := heap_setCell_same w1 M 3 _ _ (.int .i32 1) hbox1
 rw [← hw2] at hbox2
 simp at hbox2
 have hoth2 : ∀ b, b ≠ M → w2.heap[b]? = w1.heap[b]? := fun b hb => by rw [hw2]; exact Below.heap_setCell _ _ _ _ hb
 have hs2 : w2.heap.size = w.heap.size + 1 := by rw [hw2]; simp [World.setCell]; exact hs1
 have hk2 : ∀ b, b < w.heap.size → b ≠ M → w2.heap[b]? = w.heap[b]? := fun b h1 h2 => (hoth2 b h2).trans (hb1.block b h1)
 have hR2 := (hoth2 w.heap.size (by omega)).trans hR1
 have hoff2 : MgOff D w w2 := (MgOff.of_below hb1).trans (by rw [hw2]; exact MgOff.setMb' hM _ _)
 have hbb2 : Below base w w2 := hoff2.below ho hb0
 have m2 : w2.cell? ⟨M, 2, none⟩ = some (.slice ea n ecap) := by simpa using cell_of_heap hbox2 2
 rw [← hM]
 have hlock := lock_free Tryz.muLib ⟨M, 3, none⟩ w1 c3 f3
 rw [← hw2] at hlock
 obtain ⟨E, hE⟩ := exq (resE nm es)
 rw [← hE]
 replace hbox := hidI hbox
 replace hvs := hidI hvs
 replace hls := hidI hls
 replace ho := hidI ho
 replace hM := hidI hM
 replace hG := hidI hG
 replace hcl := hidI hcl
 replace hV := hidI hV
 replace hcv := hidI hcv
 replace hS := hidI hS
 replace hP := hidI hP
 replace hPp := hidI hPp
 replace hinj := hidI hinj
 replace hed := hidI hed
 replace hv0 := hidI hv0
 replace hl0 := hidI hl0
 replace hvs0 := hidI hvs0
 replace hroot := hidI hroot
 replace hb1 := hidI hb1
 replace hs1 := hidI hs1
 replace hs2 := hidI hs2
 replace hR1 := hidI hR1
 replace hR2 := hidI hR2
 replace hbox1 := hidI hbox1
 replace hbox2 := hidI hbox2
 replace hoth2 := hidI hoth2
 replace hk2 := hidI hk2
 replace hoff2 := hidI hoff2
 replace hbb2 := hidI hbb2
 replace hw2 := hidI hw2
 replace hE := hidI hE
 replace hn := hidI hn
 replace hr := hidI hr
 replace hgr := hidI hgr
 replace hSs := hidI hSs
 replace hs := hidI hs
 replace hb0 := hidI hb0
 clear c3 f3
 go_enter_defers Tryz.func194, Tryz.ntmps194
 go_upto_region 1 with fail
 rw [← hw1]
 replace hw1 := hidI hw1
 go_wp2_with fail
 refine hlock.mono ?_
 rintro e w2 ⟨rfl, rfl⟩
 clear hlock
 go_wp2_with (at_make; go_must (refine wpList_make_full _ rfl _ _ 24 rfl w2.heap.size 72 i0 (.agg #[.int .i64 0, .int .i64 0, .int .i64 0]) 3 Tryz.underlying24 hi0 hz0 hz1 .i64 .i64 _ _ n rfl rfl rfl rfl ?c1 ?c2 ?c3 ?_))
 case c1 => rw [hz2]; omega
 case c2 => unfold maxLen; omega
 case c3 => exact Nat.le_refl _
 intro w3 hown hg3
 rw [made_edges] at hown
 clear hi0 hz0 hz1 hz2
 obtain ⟨Q, hQ⟩ := exq w2.heap.size
 rw [← hQ] at hown
 have hQw : w.heap.size < Q := by rw [hQ, hs2.out]; omega
 have hQw2 := hidI (show Q = w.heap.size + 1 by rw [hQ]; exact hs2.out)
 have hQ3 : Q < w3.heap.size := (World.ownsRow.lt hown Q rfl).2
 have hb23 : Below w2.heap.size w2 w3 := (Below.refl w2.heap.size w2).grown hg3 (Nat.le_refl _) (by intro k hk; cases hk)
 have hk3 : ∀ b, b < w.heap.size → b ≠ M → w3.heap[b]? = w.heap[b]? := fun b h1 h2 => (hb23.block b (by omega)).trans (hk2.out b h1 h2)
 have hbox3 := (hb23.block M (by omega)).trans hbox2.out
 have hR3 := (hb23.block w.heap.size (by omega)).trans hR2.out
 have hv3 : VSt w3 S P num par := hv0.out.keep (fun i hi => hk3 _ (hPp.out i hi).2.1 (hPp.out i hi).2.2.1)
 have hvs3 : ∀ i, i < S → w3.cell? ⟨V, i, none⟩ = some (.pointer (some ⟨P i, 0, none⟩)) := fun i hi => (World.cell?_of_block (w := w) (a := ⟨V, i, none⟩) (hk3 V hVl hVM)).trans (hvs0.out i hi)
 have hrow3 : w3.heap[G]? = some (.cells cur 212 (0, 0)) := (hk3 G hGl hGM).trans (by rw [hG.out]; exact hls.out.row)
 have hbb3 : Below base w w3 := hbb2.out.trans (hb23.mono (by have := hb0.out; omega))
 have hrd3 : ReadE base w3 (.slice ea es.length ecap) es := by
  have := hr.out.below hbb3
  rw [hn.out] at this
  exact this
 have m2' : w3.cell? ⟨M, 2, none⟩ = some (.slice ea n ecap) := by simpa using cell_of_heap hbox3 2
 have hQP : ∀ i, i < S → Q ≠ P i := fun i hi => by have := (hPp.out i hi).2.1; omega
 have hMP : ∀ i, i < S → M ≠ P i := fun i hi => Ne.symm (hPp.out i hi).2.2.1
 have hGP : ∀ i, i < S → G ≠ P i := fun i hi => Ne.symm (hPp.out i hi).2.2.2.1
 have hVP : ∀ i, i < S → V ≠ P i := fun i hi => Ne.symm (hPp.out i hi).2.2.2.2
 have hRP : ∀ i, i < S → w.heap.size ≠ P i := fun i hi => by have := (hPp.out i hi).2.1; omega
 have hst0 : Hid (∃ C : List Ed, C.length = n ∧ OwnsE w3 Q (.slice (some ⟨Q, 0, none⟩) n n) C ∧ C.take 0 = (es.take 0).map (mE nm)) := hidI ⟨List.replicate n e0, by simp, by
  unfold OwnsE
  rw [flatE_zero, List.length_replicate]
  exact hown, by simp⟩
 have hvv0 : Hid (∃ par', VSt w3 S P num par' ∧ LSt S nm par' dep ∧ ∀ q, par' q = none ↔ par q = none) := hidI ⟨par, hv3, hl0.out, fun _ => Iff.rfl⟩
 have hon0 : Hid (OnPG S P Q w3 w3) := hidI (OnPG.refl _ _ _ _)
 replace hown := hidI hown
 replace hg3 := hidI hg3
 replace hQ := hidI hQ
 replace hb23 := hidI hb23
 replace hk3 := hidI hk3
 replace hbox3 := hidI hbox3
 replace hR3 := hidI hR3
 replace hv3 := hidI hv3
 replace hvs3 := hidI hvs3
 replace hrow3 := hidI hrow3
 replace hbb3 := hidI hbb3
 replace hrd3 := hidI hrd3
 replace hQP := hidI hQP
 replace hMP := hidI hMP
 replace hGP := hidI hGP
 replace hVP := hidI hVP
 replace hRP := hidI hRP
 rw [← hQ.out]
 clear m2
 go_wp2
 go_loopg [28] n (fun g i wr => ∃ j : Nat, j + g = n ∧ i = .int .i64 j ∧ Hid (∃ C : List Ed, C.length = n ∧ OwnsE wr Q (.slice (some ⟨Q, 0, none⟩) n n) C ∧ C.take j = (es.take j).map (mE nm)) ∧ Hid (∃ par', VSt wr S P num par' ∧ LSt S nm par' dep ∧ ∀ q, par' q = none ↔ par q = none) ∧ Hid (OnPG S P Q w3 wr))
 case atStart => exact ⟨0, by omega, rfl, hst0, hvv0, hon0⟩
 case round =>
  clear hst0 hvv0 hon0 m2'
  obtain ⟨j, hj, rfl, hst, hvv, hon⟩ := hrel
  obtain ⟨C, hCn, hC, hCt⟩ := hst.out
  obtain ⟨par1, hv1, hl1, hif1⟩ := hvv.out
  have hsz := hon.out.size
  have hboxr := (hon.out.block M (by omega) (by omega) hMP.out).trans hbox3.out
  have hbbr : Below base w3 wr := hon.out.below (by have := hb0.out; omega) (fun i hi => (hPp.out i hi).1) (by have := hb0.out; omega)
  by_cases hlt : j < n
  · have hji : (j : Int) < (n : Int) := by omega
    obtain ⟨b, off, hab, hBb, x0, x1, x2⟩ := ReadE.at3 (hrd3.out.below hbbr) j (by have := hn.out; omega)
    subst hab
    obtain ⟨hf1, hf2⟩ := hed.out j hlt
    obtain ⟨f, hf⟩ : ∃ f : Nat, (f : Int) = (es.getD j e0).1 := ⟨(es.getD j e0).1.toNat, by omega⟩
    obtain ⟨t, ht⟩ : ∃ f : Nat, (f : Int) = (es.getD j e0).2.2 := ⟨(es.getD j e0).2.2.toNat, by omega⟩
    obtain ⟨l, hll⟩ := exq ((es.getD j e0).2.1)
    rw [← hf] at x0 hf1
    rw [← hll] at x1
    rw [← ht] at x2 hf2
    have hfS : f < S := by have := hSs.out; omega
    have htS : t < S := by have := hSs.out; omega
    have hfi : (f : Int) < (S : Int) := by omega
    have hti : (t : Int) < (S : Int) := by omega
    have hme : mE nm (es.getD j e0) = (nm f, l, nm t) := by unfold mE; rw [← hf, ← ht, hll, Int.toNat_natCast, Int.toNat_natCast]
    obtain ⟨w4, hw4⟩ := exq (wr.alloc (.cells #[.int .i64 (f : Int), .int .i64 l, .int .i64 (t : Int)] 72))
    have hb4 : Below wr.heap.size wr w4 := by rw [hw4]; exact (Below.refl _ _).alloc (Nat.le_refl _) _
    have hs4 : w4.heap.size = wr.heap.size + 1 := by rw [hw4]; simp
    obtain ⟨y0_, y1_, y2_⟩ := box3 hw4
    obtain ⟨Y, hY⟩ := exq wr.heap.size
    rw [← hY] at y0_ y1_ y2_
    have hYP : ∀ i, i < S → Y ≠ P i := fun i hi => by have := (hPp.out i hi).2.1; omega
    obtain ⟨u0, hu0⟩ := exq w4.drew
    have hh0 : u0.heap = w4.heap := by rw [hu0]; rfl
    have hvu : VSt u0 S P num par1 := hv1.keep (fun i hi => by rw [hh0]; exact hb4.block _ (by have := (hPp.out i hi).2.1; omega))
    have hCu : OwnsE u0 Q (.slice (some ⟨Q, 0, none⟩) n n) C := hC.other (fun k hk => by cases hk; rw [hh0]; exact hb4.block _ (by show Q < _; omega))
    have hbu : u0.heap[M]? = _ := ((congrArg (·[M]?) hh0).trans (hb4.block M (by omega))).trans hboxr
    have a0 : u0.cell? ⟨M, 5, none⟩ = some (.slice (some ⟨V, 0, none⟩) S cv) := by simpa using cell_of_heap hbu 5
    have hvur : ∀ i, i < S → u0.cell? ⟨V, i, none⟩ = some (.pointer (some ⟨P i, 0, none⟩)) := fun i hi => by
     have h1 := hon.out.cell (by omega) (by omega) hVP.out (hvs3.out i hi)
     have h2 := below_cell h1 hb4 (by omega)
     rw [World.cell?_of_block (w := w4) (a := ⟨V, i, none⟩) (by rw [hh0])]
     exact h2
    have a1 := hvur f hfS
    have a2 := hvur t htS
    obtain ⟨F, hF⟩ := exq (P f)
    obtain ⟨T, hT⟩ := exq (P t)
    rw [← hF] at a1
    rw [← hT] at a2
    have a3 : u0.cell? ⟨Y, 0, none⟩ = some (.int .i64 (f : Int)) := by rw [hu0]; exact y0_
    have a4 : u0.cell? ⟨Y, 1, none⟩ = some (.int .i64 l) := by rw [hu0]; exact y1_
    have a5 : u0.cell? ⟨Y, 2, none⟩ = some (.int .i64 (t : Int)) := by rw [hu0]; exact y2_
    have hkc := kept_any (num := num) (nm := nm) (dep := dep) hinj.out (dep f) u0 par1 f hfS (Nat.le_refl _) hvu hl1
    rw [show encP (some (P f)) = .pointer (some ⟨F, 0, none⟩) by rw [hF]; rfl] at hkc
    have hon4 : OnPG S P Q w3 u0 := hon.out.trans ((OnPG.of_below hb4).trans (by rw [hu0]; exact OnPG.drew))
    have hsu0 : u0.heap.size = Y + 1 := by rw [hh0]; omega
    replace hj := hidI hj
    replace hC := hidI hC
    replace hCt := hidI hCt
    replace hCn := hidI hCn
    replace hv1 := hidI hv1
    replace hl1 := hidI hl1
    replace hif1 := hidI hif1
    replace hboxr := hidI hboxr
    replace hbbr := hidI hbbr
    replace hf1 := hidI hf1
    replace hf2 := hidI hf2
    replace hf := hidI hf
    replace ht := hidI ht
    replace hll := hidI hll
    replace hme := hidI hme
    replace hb4 := hidI hb4
    replace hs4 := hidI hs4
    replace hYP := hidI hYP
    replace hu0 := hidI hu0
    replace hh0 := hidI hh0
    replace hvu := hidI hvu
    replace hCu := hidI hCu
    replace hbu := hidI hbu
    replace hvur := hidI hvur
    replace hF := hidI hF
    replace hT := hidI hT
    replace hkc := hidI hkc
    replace hon4 := hidI hon4
    replace hsu0 := hidI hsu0
    replace hlt := hidI hlt
    clear hst hvv
    go_upto_region 7 with fail
    rw [← hw4]
    replace hw4 := hidI hw4
    rw [← hY]
    replace hY := hidI hY
    clear x0 x1 x2 y0_ y1_ y2_
    refine wp_region_noPanic ?_
    refine hideQ (fun _ _ d _ _ h => by cases d <;> exact h) (fun Q' hnorm hpan => ?_)
    refine wp_region_held_drew (S := (fun z => z.cell? ⟨M, 5, none⟩ = some (.slice (some ⟨V, 0, none⟩) S cv) ∧ z.cell? ⟨V, f, none⟩ = some (.pointer (some ⟨F, 0, none⟩)) ∧ z.cell? ⟨V, t, none⟩ = some (.pointer (some ⟨T, 0, none⟩)) ∧ z.cell? ⟨Y, 0, none⟩ = some (.int .i64 (f : Int)) ∧ z.cell? ⟨Y, 2, none⟩ = some (.int .i64 (t : Int)))) (by kernel_rfl) ?_ (fun hHeld => ?_)
    · try dsimp only
      rw [← hu0.out]
      ((repeat' apply And.intro) <;> assumption)
    rw [← hu0.out] at hHeld ⊢
    refine tk 0 33 ?_
    refine tk 1 34 ?_
    refine tk 2 35 ?_
    refine tk 3 36 ?_
    refine tk 4 37 ?_
    refine tk 5 38 ?_
    refine tk 6 39 ?_
    refine tk 7 40 ?_
    refine tk 9 42 ?_
    refine tk 10 43 ?_
    refine tk 11 44 ?_
    refine tk 12 45 ?_
    refine tk 13 46 ?_
    refine tk 14 47 ?_
    refine tk 15 48 ?_
    refine tk 16 49 ?_
    refine wpAnyH_ready (rs := [8]) (by kernel_rfl) (by simp) ?_
    refine AllReadyH.cons rfl (fun Kz hK => ?_) AllReadyH.nil
    rw [if_pos (by rfl)]
    go_simp
    go_at_call 209
    (with_reducible refine hkc.out.mono ?_)
    rintro e v1 ⟨j1, par2, rfl, hj1, hpj1, hnj1, hdj1, hif2, hl2, hv2, hon1⟩
    replace a0 := hon1.cell hMP.out a0
    replace a1 := hon1.cell hVP.out a1
    replace a2 := hon1.cell hVP.out a2
    replace a3 := hon1.cell hYP.out a3
    replace a4 := hon1.cell hYP.out a4
    replace a5 := hon1.cell hYP.out a5
    have hkc2 := kept_any (num := num) (nm := nm) (dep := dep) hinj.out (dep t) v1 par2 t htS (Nat.le_refl _) hv2 hl2
    rw [show encP (some (P t)) = .pointer (some ⟨T, 0, none⟩) by rw [hT.out]; rfl] at hkc2
    replace hkc2 := hidI hkc2
    simp only [encP]
    replace hpj1 := hidI hpj1
    replace hnj1 := hidI hnj1
    replace hif2 := hidI hif2
    replace hl2 := hidI hl2
    replace hv2 := hidI hv2
    refine hK.out _ _ ?_ (fun hHeld => ?_)
    · try dsimp only
      ((repeat' apply And.intro) <;> assumption)
    clear hK
    try simp only [Act.put, lyA, lyB, lyC]
    refine wpAnyH_ready (rs := [17]) (by kernel_rfl) (by simp) ?_
    refine AllReadyH.cons rfl (fun Kz hK => ?_) AllReadyH.nil
    rw [if_pos (by rfl)]
    go_simp
    go_at_call 209
    (with_reducible refine hkc2.out.mono ?_)
    rintro e v2 ⟨j2, par3, rfl, hj2, hpj2, hnj2, hdj2, hif3, hl3, hv3', hon2⟩
    replace a0 := hon2.cell hMP.out a0
    replace a1 := hon2.cell hVP.out a1
    replace a2 := hon2.cell hVP.out a2
    replace a3 := hon2.cell hYP.out a3
    replace a4 := hon2.cell hYP.out a4
    replace a5 := hon2.cell hYP.out a5
    simp only [encP]
    replace hpj2 := hidI hpj2
    replace hnj2 := hidI hnj2
    replace hif3 := hidI hif3
    replace hl3 := hidI hl3
    replace hv3' := hidI hv3'
    refine hK.out _ _ ?_ (fun hHeld => ?_)
    · try dsimp only
      ((repeat' apply And.intro) <;> assumption)
    clear hK
    try simp only [Act.put, lyA, lyB, lyC]
    refine tk 18 6 ?_
    refine tk 19 7 ?_
    refine wpAnyH_done (by kernel_rfl) ?_ _
    refine hnorm _ _ ?_
    clear hnorm hpan
    repeat clear hHeld
    refine NoPanic.normal ?_
    try simp only [Exit.then]
    have hjn1 : num j1 = nm f := by rw [hroot.out j1 hj1 ((hif1.out j1).1 hpj1.out)]; exact hnj1.out
    have hjn2 : num j2 = nm t := by rw [hroot.out j2 hj2 ((hif1.out j2).1 ((hif2.out j2).1 hpj2.out))]; exact hnj2.out
    have hon12 := hon1.trans hon2
    obtain ⟨u2, hu2⟩ := exq v2.drew
    have hh2 : u2.heap = v2.heap := by rw [hu2]; rfl
    have hvu2 : VSt u2 S P num par3 := hv3'.out.keep (fun i hi => by rw [hh2])
    have hCu2 : OwnsE u2 Q (.slice (some ⟨Q, 0, none⟩) n n) C := hCu.out.other (fun k hk => by cases hk; rw [hh2]; exact hon12.block Q hQP.out)
    obtain ⟨J1, hJ1⟩ := exq (P j1)
    obtain ⟨J2, hJ2⟩ := exq (P j2)
    have g1 := hvu2 j1 hj1
    have g2 := hvu2 j2 hj2
    rw [← hJ1, hjn1] at g1
    rw [← hJ2, hjn2] at g2
    have d0 := cell_of_heap g1 0
    have d1 := cell_of_heap g2 0
    simp at d0 d1
    have d2 : u2.cell? ⟨Y, 1, none⟩ = some (.int .i64 l) := by rw [hu2]; exact a4
    have hQJ1 : Q ≠ J1 := by rw [hJ1]; exact hQP.out j1 hj1
    have hQJ2 : Q ≠ J2 := by rw [hJ2]; exact hQP.out j2 hj2
    have hQY : Q ≠ Y := by have := hY.out; have := hon.out.size; omega
    obtain ⟨nf, hnf⟩ := exq (nm f)
    obtain ⟨nt, hnt⟩ := exq (nm t)
    rw [← hnf] at d0
    rw [← hnt] at d1
    obtain ⟨u3, hu3⟩ := exq (((u2.setCell ⟨Q, j * 3, none⟩ (.int .i64 nf)).setCell ⟨Q, j * 3 + 1, none⟩ (.int .i64 l)).setCell ⟨Q, j * 3 + 2, none⟩ (.int .i64 nt))
    have hCu3 : OwnsE u3 Q (.slice (some ⟨Q, 0, none⟩) n n) (C.set j (nf, l, nt)) := by rw [hu3]; exact hCu2.lay hCn.out hlt.out
    have hk3' : ∀ b, b ≠ Q → u3.heap[b]? = u2.heap[b]? := fun b hb => by rw [hu3, Below.heap_setCell _ _ _ _ hb, Below.heap_setCell _ _ _ _ hb, Below.heap_setCell _ _ _ _ hb]
    have e0' : u3.cell? ⟨J1, 0, none⟩ = some (.int .i64 nf) := (World.cell?_of_block (w := u2) (a := ⟨J1, 0, none⟩) (hk3' J1 (Ne.symm hQJ1))).trans d0
    have e1' : u3.cell? ⟨J2, 0, none⟩ = some (.int .i64 nt) := (World.cell?_of_block (w := u2) (a := ⟨J2, 0, none⟩) (hk3' J2 (Ne.symm hQJ2))).trans d1
    have e2' : u3.cell? ⟨Y, 1, none⟩ = some (.int .i64 l) := (World.cell?_of_block (w := u2) (a := ⟨Y, 1, none⟩) (hk3' Y (Ne.symm hQY))).trans d2
    have hz9 := hCu2
    rw [← hCn.out] at hz9
    obtain ⟨r0, hr0⟩ := OwnsS.cell hz9 (j * 3) (by have := hlt.out; have := hCn.out; omega)
    obtain ⟨r1, hr1⟩ := OwnsS.cell hz9 (j * 3 + 1) (by have := hlt.out; have := hCn.out; omega)
    obtain ⟨r2, hr2⟩ := OwnsS.cell hz9 (j * 3 + 2) (by have := hlt.out; have := hCn.out; omega)
    have z0 := OwnsS.frozen hz9 (j * 3)
    have z1 := OwnsS.frozen hz9 (j * 3 + 1)
    have z2 := OwnsS.frozen hz9 (j * 3 + 2)
    have hst9 : Hid (∃ C : List Ed, C.length = n ∧ OwnsE u3 Q (.slice (some ⟨Q, 0, none⟩) n n) C ∧ C.take (j + 1) = (es.take (j + 1)).map (mE nm)) := hidI ⟨_, by rw [List.length_set]; exact hCn.out, hCu3, by
     have hlt' := hlt.out
     have hCn' := hCn.out
     have hn' := hn.out
     rw [List.take_add_one, List.getElem?_set_self (by omega), List.take_set_of_le (Nat.le_refl _), hCt.out, List.take_add_one, List.getElem?_eq_getElem (by omega : j < es.length), List.map_append]
     congr 1
     show [(nf, l, nt)] = [mE nm es[j]]
     rw [← getE_el, hme.out, hnf, hnt]⟩
    have hvv9 : Hid (∃ par', VSt u3 S P num par' ∧ LSt S nm par' dep ∧ ∀ q, par' q = none ↔ par q = none) := hidI ⟨par3, hvu2.keep (fun i hi => hk3' _ (Ne.symm (hQP.out i hi))), hl3.out, fun q => (hif3.out q).trans ((hif2.out q).trans (hif1.out q))⟩
    have hon9 : Hid (OnPG S P Q w3 u3) := hidI (hon4.out.trans ((OnPG.of_onP hon12).trans (by
     refine OnPG.drew.trans ?_
     rw [← hu2, hu3]
     exact ((OnPG.set _ _).trans (OnPG.set _ _)).trans (OnPG.set _ _))))
    simp only [← hJ1, ← hJ2]
    replace hjn1 := hidI hjn1
    replace hjn2 := hidI hjn2
    replace hon12 := hidI hon12
    replace hh2 := hidI hh2
    replace hvu2 := hidI hvu2
    replace hCu2 := hidI hCu2
    replace hJ1 := hidI hJ1
    replace hJ2 := hidI hJ2
    replace g1 := hidI g1
    replace g2 := hidI g2
    replace hQJ1 := hidI hQJ1
    replace hQJ2 := hidI hQJ2
    replace hQY := hidI hQY
    replace hnf := hidI hnf
    replace hnt := hidI hnt
    replace hu3 := hidI hu3
    replace hCu3 := hidI hCu3
    replace hk3' := hidI hk3'
    replace hz9 := hidI hz9
    replace hu2 := hidI hu2
    replace hon1 := hidI hon1
    replace hon2 := hidI hon2
    replace hj1 := hidI hj1
    replace hj2 := hidI hj2
    replace hdj1 := hidI hdj1
    replace hdj2 := hidI hdj2
    clear a0 a1 a2 a3 a4 a5
    go_wp2_with fail
    refine wp_region_noPanic ?_
    refine hideQ (fun _ _ d _ _ h => by cases d <;> exact h) (fun Q' hnorm hpan => ?_)
    refine wp_region_held_drew (S := (fun z => z.cell? ⟨J1, 0, none⟩ = some (.int .i64 nf) ∧ z.cell? ⟨J2, 0, none⟩ = some (.int .i64 nt) ∧ z.cell? ⟨Y, 1, none⟩ = some (.int .i64 l))) (by kernel_rfl) ?_ (fun hHeld => ?_)
    · try dsimp only
      rw [← hu2.out]
      ((repeat' apply And.intro) <;> assumption)
    rw [← hu2.out] at hHeld ⊢
    refine tk 0 51 ?_
    refine tk 1 52 ?_
    refine tk 2 53 ?_
    refine tk 3 54 ?_
    refine tk 4 55 ?_
    refine tk 5 56 ?_
    refine tk 6 57 ?_
    refine tk 7 58 ?_
    refine tk 8 59 ?_
    refine tk 9 60 ?_
    refine tk 10 61 ?_
    refine tk 11 62 ?_
    refine tk 12 63 ?_
    refine tk 13 64 ?_
    refine wpAnyH_ready (rs := [14]) (by kernel_rfl) (by simp) ?_
    refine AllReadyH.cons rfl (fun Kz hK => ?_) AllReadyH.nil
    rw [if_pos (by rfl)]
    go_simp
    rw [← hu3.out]
    refine hK.out _ _ ?_ (fun hHeld => ?_)
    · try dsimp only
      ((repeat' apply And.intro) <;> assumption)
    clear hK
    try simp only [Act.put, lyA, lyB, lyC]
    refine wpAnyH_done (by kernel_rfl) ?_ _
    refine hnorm _ _ ?_
    clear hnorm hpan
    repeat clear hHeld
    refine NoPanic.normal ?_
    try simp only [Exit.then]
    clear d0 d1 d2 e0' e1' e2' hr0 hr1 hr2 z0 z1 z2
    go_wp2
    go_roundg (n - (j + 1))
    case rel => exact ⟨j + 1, by have := hj.out; have := hlt.out; omega, by go_num, hst9, hvv9, hon9⟩
    case measure => have := hj.out; have := hlt.out; omega
  · obtain rfl : j = n := by omega
    have hji : ¬ (j : Int) < (j : Int) := by omega
    have hCm : C = es.map (mE nm) := by
     rw [List.take_of_length_le (by omega), List.take_of_length_le (by have := hn.out; omega)] at hCt
     exact hCt
    have m0r : wr.cell? ⟨M, 0, none⟩ = some (.int .i64 r) := by simpa using cell_of_heap hboxr 0
    have hsort := sortE_any wr Q Q j C (by rw [hCn]; exact hC) (by omega)
    rw [hCn] at hsort
    have hRr := (hon.out.block w.heap.size (by omega) (by omega) hRP.out).trans hR3.out
    replace hj := hidI hj
    replace hC := hidI hC
    replace hCn := hidI hCn
    replace hCt := hidI hCt
    replace hCm := hidI hCm
    replace hv1 := hidI hv1
    replace hl1 := hidI hl1
    replace hif1 := hidI hif1
    replace hboxr := hidI hboxr
    replace hbbr := hidI hbbr
    replace hRr := hidI hRr
    clear hst hvv m0r
    go_wp2_with fail
    refine hsort.mono ?_
    rintro e w5 ⟨rfl, hg5, ds, hperm, hpw, hown5⟩
    rw [hCn.out] at hown5
    have hdl : ds.length = j := by rw [hperm.length_eq]; exact hCn.out
    have hcomp := fun (W : World) (hW : OwnsE W Q (.slice (some ⟨Q, 0, none⟩) ds.length j) ds) => compactE_any W Q Q j ds hW (by omega)
    have hEd : dd ds ds.length = E := by
     rw [sort_put (es := []) (L := C) List.Pairwise.nil (by rw [List.nil_append]; exact hperm) hpw, hE.out, hCm.out]; rfl
    rw [hEd, hdl] at hcomp
    have hon5 : OnPG S P Q w3 w5 := hon.out.trans (OnPG.of_grown hg5)
    have hs5 := hg5.size
    obtain ⟨u4, hu4⟩ := exq w5.drew
    have hh4 : u4.heap = w5.heap := by rw [hu4]; rfl
    have hbox5 := (hg5.block M (by omega) (fun e => by have := Option.some.inj e; omega)).trans hboxr.out
    have hR5 := (hg5.block w.heap.size (by omega) (fun e => by have := Option.some.inj e; omega)).trans hRr.out
    have hbox4 := hbox5
    rw [← hh4] at hbox4
    have t0 : u4.cell? ⟨M, 0, none⟩ = some (.int .i64 r) := by simpa using cell_of_heap hbox4 0
    have t1 : u4.cell? ⟨M, 6, none⟩ = some (.slice (some ⟨G, 0, none⟩) K cl) := by simpa using cell_of_heap hbox4 6
    have hown4 : OwnsE u4 Q (.slice (some ⟨Q, 0, none⟩) j j) ds := hown5.other (fun k _ => by rw [hh4])
    have hcall := hcomp u4 hown4
    have hRw : w.heap.size ≠ M := by omega
    replace hperm := hidI hperm
    replace hpw := hidI hpw
    replace hown5 := hidI hown5
    replace hdl := hidI hdl
    replace hEd := hidI hEd
    replace hon5 := hidI hon5
    replace hg5 := hidI hg5
    replace hbox5 := hidI hbox5
    replace hbox4 := hidI hbox4
    replace hR5 := hidI hR5
    replace hu4 := hidI hu4
    replace hh4 := hidI hh4
    replace hown4 := hidI hown4
    clear hcomp hsort
    go_wp2_with fail
    refine wp_region_noPanic ?_
    refine hideQ (fun _ _ d _ _ h => by cases d <;> exact h) (fun Q' hnorm hpan => ?_)
    refine wp_region_held_drew (S := (fun z => z.cell? ⟨M, 0, none⟩ = some (.int .i64 r) ∧ z.cell? ⟨M, 6, none⟩ = some (.slice (some ⟨G, 0, none⟩) K cl))) (by kernel_rfl) ?_ (fun hHeld => ?_)
    · try dsimp only
      rw [← hu4.out]
      ((repeat' apply And.intro) <;> assumption)
    rw [← hu4.out] at hHeld ⊢
    refine tk 0 68 ?_
    refine tk 1 69 ?_
    refine tk 2 70 ?_
    refine tk 3 71 ?_
    refine tk 4 72 ?_
    refine tk 5 73 ?_
    refine tk 6 74 ?_
    refine tk 7 75 ?_
    refine tk 8 76 ?_
    refine tk 9 77 ?_
    refine tk 10 78 ?_
    refine wpAnyH_ready (rs := [11]) (by kernel_rfl) (by simp) ?_
    refine AllReadyH.cons rfl (fun Kz hK => ?_) AllReadyH.nil
    rw [if_pos (by rfl)]
    go_simp
    go_at_call 192
    (with_reducible refine hcall.mono ?_)
    rintro e w6 ⟨rfl, hg6, hown6⟩
    have hs6 := hg6.size
    have hsu4 : u4.heap.size = w5.heap.size := by rw [hh4.out]
    have hbox6 := (hg6.block M (by omega) (fun e => by have := Option.some.inj e; omega)).trans hbox4.out
    have hR6 : w6.heap[w.heap.size]? = _ := (hg6.block w.heap.size (by omega) (fun e => by have := Option.some.inj e; omega)).trans ((congrArg (·[w.heap.size]?) hh4.out).trans hR5.out)
    replace t0 : w6.cell? ⟨M, 0, none⟩ = some (.int .i64 r) := by simpa using cell_of_heap hbox6 0
    replace t1 : w6.cell? ⟨M, 6, none⟩ = some (.slice (some ⟨G, 0, none⟩) K cl) := by simpa using cell_of_heap hbox6 6
    obtain ⟨w7, hw7⟩ := exq (((w6.setCell ⟨w.heap.size, 0, none⟩ (.int .i64 0)).setCell ⟨w.heap.size, 1, none⟩ (.int .i64 0)).setCell ⟨w.heap.size, 2, none⟩ (.slice none 0 0))
    have hR7 : w7.heap[w.heap.size]? = some (.cells #[.int .i64 0, .int .i64 0, .slice none 0 0] 26 (0, 0)) := by rw [hw7]; exact set3 hR6 _ _ _
    obtain ⟨w8, hw8⟩ := exq (w7.setCell ⟨w.heap.size, 0, none⟩ (.int .i64 r))
    have hR8 := heap_setCell_same w7 w.heap.size 0 _ _ (.int .i64 r) hR7
    rw [← hw8] at hR8
    simp at hR8
    obtain ⟨w9, hw9⟩ := exq (w8.setCell ⟨w.heap.size, 1, none⟩ (.int .i64 (K : Int)))
    have hR9 := heap_setCell_same w8 w.heap.size 1 _ _ (.int .i64 (K : Int)) hR8
    rw [← hw9] at hR9
    simp at hR9
    obtain ⟨wA, hwA⟩ := exq (w9.setCell ⟨w.heap.size, 2, none⟩ (.slice (some ⟨Q, 0, none⟩) E.length j))
    have hRA := heap_setCell_same w9 w.heap.size 2 _ _ (.slice (some ⟨Q, 0, none⟩) E.length j) hR9
    rw [← hwA] at hRA
    simp at hRA
    have hk7 : ∀ b, b ≠ w.heap.size → w7.heap[b]? = w6.heap[b]? := fun b hb => by rw [hw7]; exact heap_set3 hb
    have hk8 : ∀ b, b ≠ w.heap.size → w8.heap[b]? = w6.heap[b]? := fun b hb => by rw [hw8, Below.heap_setCell _ _ _ _ hb]; exact hk7 b hb
    have hk9 : ∀ b, b ≠ w.heap.size → w9.heap[b]? = w6.heap[b]? := fun b hb => by rw [hw9, Below.heap_setCell _ _ _ _ hb]; exact hk8 b hb
    have hkA : ∀ b, b ≠ w.heap.size → wA.heap[b]? = w6.heap[b]? := fun b hb => by rw [hwA, Below.heap_setCell _ _ _ _ hb]; exact hk9 b hb
    have hsA : wA.heap.size = w6.heap.size := by rw [hwA, hw9, hw8, hw7]; simp [World.setCell]
    have t07 : w7.cell? ⟨M, 0, none⟩ = some (.int .i64 r) := (World.cell?_of_block (w := w6) (a := ⟨M, 0, none⟩) (hk7 M (Ne.symm hRw))).trans t0
    have t17 : w7.cell? ⟨M, 6, none⟩ = some (.slice (some ⟨G, 0, none⟩) K cl) := (World.cell?_of_block (w := w6) (a := ⟨M, 6, none⟩) (hk7 M (Ne.symm hRw))).trans t1
    have t08 : w8.cell? ⟨M, 0, none⟩ = some (.int .i64 r) := (World.cell?_of_block (w := w6) (a := ⟨M, 0, none⟩) (hk8 M (Ne.symm hRw))).trans t0
    have t18 : w8.cell? ⟨M, 6, none⟩ = some (.slice (some ⟨G, 0, none⟩) K cl) := (World.cell?_of_block (w := w6) (a := ⟨M, 6, none⟩) (hk8 M (Ne.symm hRw))).trans t1
    have t09 : w9.cell? ⟨M, 0, none⟩ = some (.int .i64 r) := (World.cell?_of_block (w := w6) (a := ⟨M, 0, none⟩) (hk9 M (Ne.symm hRw))).trans t0
    have t19 : w9.cell? ⟨M, 6, none⟩ = some (.slice (some ⟨G, 0, none⟩) K cl) := (World.cell?_of_block (w := w6) (a := ⟨M, 6, none⟩) (hk9 M (Ne.symm hRw))).trans t1
    have t0A : wA.cell? ⟨M, 0, none⟩ = some (.int .i64 r) := (World.cell?_of_block (w := w6) (a := ⟨M, 0, none⟩) (hkA M (Ne.symm hRw))).trans t0
    have t1A : wA.cell? ⟨M, 6, none⟩ = some (.slice (some ⟨G, 0, none⟩) K cl) := (World.cell?_of_block (w := w6) (a := ⟨M, 6, none⟩) (hkA M (Ne.symm hRw))).trans t1
    obtain ⟨z60, z61, z62⟩ := cell3 hR6
    have ff6 := fun q => frozen_of_row w6 w.heap.size q _ _ hR6
    have z70 := cell_of_heap hR7 0
    have ff7 := fun q => frozen_of_row w7 w.heap.size q _ _ hR7
    have z81 := cell_of_heap hR8 1
    have ff8 := fun q => frozen_of_row w8 w.heap.size q _ _ hR8
    have z92 := cell_of_heap hR9 2
    have ff9 := fun q => frozen_of_row w9 w.heap.size q _ _ hR9
    simp at z60 z61 z62 z70 z81 z92
    have hboxA := (hkA M (Ne.symm hRw)).trans hbox6
    have hcA3 : wA.cell? ⟨M, 3, none⟩ = some (.int .i32 1) := by simpa using cell_of_heap hboxA 3
    have hfA3 := frozen_of_row wA M 3 _ _ hboxA
    have hothB : ∀ b, b ≠ M → (wA.setCell ⟨M, 3, none⟩ (.int .i32 0)).heap[b]? = wA.heap[b]? := fun b hb => Below.heap_setCell _ _ _ _ hb
    have honA : ∀ b, b < w3.heap.size → b ≠ Q → (∀ i, i < S → b ≠ P i) → b ≠ w.heap.size → wA.heap[b]? = w3.heap[b]? := fun b h1 h2 h3 h4 => by
     rw [hkA b h4, hg6.block b (by have := hon5.out.size; omega) (fun e => h2 (Option.some.inj e)), hh4.out]
     exact hon5.out.block b h1 h2 h3
    have hvA : VSt wA S P num par1 := hv1.out.keep (fun i hi => by
     have hp := hPp.out i hi
     have h1 := hQP.out i hi
     have h2 := hRP.out i hi
     rw [hkA _ (Ne.symm h2), hg6.block _ (by omega) (fun e => h1 (Option.some.inj e).symm), hh4.out]
     exact hg5.out.block _ (by omega) (fun e => h1 (Option.some.inj e).symm))
    have hfin : ResRet D r s (.slice ea j ecap) nm K E w (.returned (.agg #[.int .i64 r, .int .i64 (K : Int), .slice (some ⟨Q, 0, none⟩) E.length j])) (wA.setCell ⟨M, 3, none⟩ (.int .i32 0)) := by
     refine ⟨_, _, rfl, ?_, ⟨?_, fun i hi => ?_, cur, ls, num, par1, dep, ?_⟩, ?_⟩
     · have hrw := OwnsS.row hown6 (by
        have := resE_length nm es
        rw [← hE.out] at this
        have := hn.out; omega)
       have hrw2 : RowS 72 3 (wA.setCell ⟨M, 3, none⟩ (.int .i32 0)) Q w6.heap.size (.slice (some ⟨Q, 0, none⟩) E.length j) E.length (flatE E) := hrw.keep (fun q q1 q2 => by
        rw [hothB q (by omega), hkA q (by omega)])
       exact hrw2.wide (by omega) (by simp only [World.setCell, Array.size_modify]; omega)
     · have := heap_setCell_same wA M 3 _ _ (.int .i32 0) hboxA
       rw [← hM.out, this]
       simp [MgBox, ← hG.out, ← hcl.out, ← hV.out, ← hcv.out, ← hS.out]
     · rw [← hV.out, ← hP.out]
       rw [← hS.out] at hi
       rw [World.cell?_of_block (w := wA) (a := ⟨V, i, none⟩) (hothB V hVM), World.cell?_of_block (w := w3) (a := ⟨V, i, none⟩) (honA V (by omega) (by omega) hVP.out (by omega))]
       exact hvs3.out i hi
     · have hl := hls.out
       have hSS := hS.out
       have hPP := hP.out
       refine ⟨?_, hl.len, hl.kS, hl.at_, ?_, ?_, fun i hi hp => hl.root i hi ((hif1.out i).1 hp), hl.nms, fun q hq => ⟨(hl.left q hq).1, (hif1.out _).2 (hl.left q hq).2.1, (hl.left q hq).2.2⟩⟩
       · rw [← hG.out, hothB G hGM, honA G (by omega) (by omega) hGP.out (by omega)]
         exact hrow3.out
       · rw [← hSS, ← hPP]
         exact hvA.keep (fun i hi => hothB _ (Ne.symm (hMP.out i hi)))
       · rw [← hSS]; exact hl1.out
     · have hsz3 := hon5.out.size
       refine ⟨?_, ?_, ?_, ?_, fun b q1 q2 q3 q4 => ?_⟩
       · have o7 : wA.os = w6.os := by rw [hwA, hw9, hw8, hw7]; rfl
         have o4 : u4.os = w5.os := by rw [hu4.out]; rfl
         have o1 : (wA.setCell ⟨M, 3, none⟩ (.int .i32 0)).os = wA.os := rfl
         have o6 := hg6.os
         have o5 := hon5.out.os
         have o3 := hb23.out.os
         have o2 := hoff2.out.os
         rw [o1, o7, o6, o4, o5, o3, o2]
       · have o7 : wA.tape = w6.tape := by rw [hwA, hw9, hw8, hw7]; rfl
         have o4 : u4.tape = w5.tape := by rw [hu4.out]; rfl
         have o1 : (wA.setCell ⟨M, 3, none⟩ (.int .i32 0)).tape = wA.tape := rfl
         have o6 := hg6.tape
         have o5 := hon5.out.tape
         have o3 := hb23.out.tape
         have o2 := hoff2.out.tape
         rw [o1, o7, o6, o4, o5, o3, o2]
       · have o7 : wA.output = w6.output := by rw [hwA, hw9, hw8, hw7]; rfl
         have o4 : u4.output = w5.output := by rw [hu4.out]; rfl
         have o1 : (wA.setCell ⟨M, 3, none⟩ (.int .i32 0)).output = wA.output := rfl
         have o6 := hg6.output
         have o5 := hon5.out.output
         have o3 := hb23.out.output
         have o2 := hoff2.out.output
         rw [o1, o7, o6, o4, o5, o3, o2]
       · simp only [World.setCell, Array.size_modify]; omega
       · rw [← hM.out] at q2
         rw [hothB b q2, honA b (by omega) (by omega) (fun i hi => by rw [hP.out]; exact q4 i (by rw [← hS.out]; exact hi)) (by omega)]
         exact hk3.out b q1 q2
    replace hg6 := hidI hg6
    replace hown6 := hidI hown6
    replace hbox6 := hidI hbox6
    replace hR6 := hidI hR6
    replace hR7 := hidI hR7
    replace hR8 := hidI hR8
    replace hR9 := hidI hR9
    replace hRA := hidI hRA
    replace hk7 := hidI hk7
    replace hk8 := hidI hk8
    replace hk9 := hidI hk9
    replace hkA := hidI hkA
    replace hsA := hidI hsA
    replace hboxA := hidI hboxA
    replace hothB := hidI hothB
    replace honA := hidI honA
    replace hvA := hidI hvA
    replace hfin := hidI hfin
    replace hw8 := hidI hw8
    replace hw9 := hidI hw9
    replace hwA := hidI hwA
    replace hw7 := hidI hw7
    refine hK.out _ _ ?_ (fun hHeld => ?_)
    · try dsimp only
      ((repeat' apply And.intro) <;> assumption)
    clear hK
    try simp only [Act.put, lyA, lyB, lyC]
    refine wpAnyH_ready (rs := [12]) (by kernel_rfl) (by simp) ?_
    refine AllReadyH.cons rfl (fun Kz hK => ?_) AllReadyH.nil
    rw [if_pos (by rfl)]
    go_simp
    rw [← hw7.out]
    clear t0 t1
    refine hK.out _ _ ?_ (fun hHeld => ?_)
    · try dsimp only
      ((repeat' apply And.intro) <;> assumption)
    clear hK
    try simp only [Act.put, lyA, lyB, lyC]
    refine tk 13 80 ?_
    refine wpAnyH_ready (rs := [14]) (by kernel_rfl) (by simp) ?_
    refine AllReadyH.cons rfl (fun Kz hK => ?_) AllReadyH.nil
    rw [if_pos (by rfl)]
    go_simp
    rw [← hw8.out]
    clear t07 t17
    refine hK.out _ _ ?_ (fun hHeld => ?_)
    · try dsimp only
      ((repeat' apply And.intro) <;> assumption)
    clear hK
    try simp only [Act.put, lyA, lyB, lyC]
    refine tk 15 81 ?_
    refine wpAnyH_ready (rs := [16]) (by kernel_rfl) (by simp) ?_
    refine AllReadyH.cons rfl (fun Kz hK => ?_) AllReadyH.nil
    rw [if_pos (by rfl)]
    go_simp
    rw [← hw9.out]
    clear t08 t18
    refine hK.out _ _ ?_ (fun hHeld => ?_)
    · try dsimp only
      ((repeat' apply And.intro) <;> assumption)
    clear hK
    try simp only [Act.put, lyA, lyB, lyC]
    refine tk 17 82 ?_
    refine wpAnyH_ready (rs := [18]) (by kernel_rfl) (by simp) ?_
    refine AllReadyH.cons rfl (fun Kz hK => ?_) AllReadyH.nil
    rw [if_pos (by rfl)]
    go_simp
    rw [← hwA.out]
    clear t09 t19
    refine hK.out _ _ ?_ (fun hHeld => ?_)
    · try dsimp only
      ((repeat' apply And.intro) <;> assumption)
    clear hK
    try simp only [Act.put, lyA, lyB, lyC]
    refine wpAnyH_done (by kernel_rfl) ?_ _
    refine hnorm _ _ ?_
    clear hnorm hpan
    repeat clear hHeld
    refine NoPanic.normal ?_
    try simp only [Exit.then]
    clear z60 z61 z62 z70 z81 z92 ff6 ff7 ff8 ff9 t0A t1A
    go_wp2
    refine leaves_cons (f := 208) (args := #[.pointer (some ⟨M, 3, none⟩)]) (by simp) (by simp [go_sem]) ?_
    refine (unlock_deferred Tryz.muLib ⟨M, 3, none⟩ .returning _ hcA3 hfA3).mono ?_
    rintro e u' w'' ⟨rfl, rfl, rfl⟩
    exact ⟨_, results_cell_row rfl _ _ w.heap.size _ _ _ _ rfl ((Below.heap_setCell _ _ _ _ hRw).trans hRA.out) Tryz.underlying26 rfl sizeGraph, hfin.out⟩
end Go.Proofs.YtpjlamnjiilgbaaGreat
