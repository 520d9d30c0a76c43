import Derived.Deep.Cut
import Derived.Deep.LoopGhost
import Derived.Test.YtpjlamnjiilgbaaGreatJ29Ba
import Derived.Test.YtpjlamnjiilgbaaGreatJ18Ba
import Derived.Test.YtpjlamnjiilgbaaGreatJ8Ba
import Derived.Test.YtpjlamnjiilgbaaGreatJ15Ba
namespace Go.Proofs.YtpjlamnjiilgbaaGreat
open Go.RowKit Go.Maps
set_option linter.unusedVariables false
set_option linter.unusedSimpArgs false
structure RiSt (w : World) (lo x0 x1 : Nat) (u : Value) (acc : List Int) (vx : Value) (RL : List Int) (vX : Value) (X : List Ed) : Prop where
 own : OwnsI w lo u acc
 rx : RowI w x0 x1 vx RL
 re : RowS 72 3 w x0 x1 vX X.length (flatE X)
 off : ∀ b, u.ownBlock = some b → b < x0 ∨ x1 ≤ b
 lt : x1 ≤ w.heap.size
theorem RiSt.below {w w' : World} {lo x0 x1 : Nat} {u vx vX : Value} {acc RL : List Int} {X : List Ed} (h : RiSt w lo x0 x1 u acc vx RL vX X) (hb : Below w.heap.size w w') : RiSt w' lo x0 x1 u acc vx RL vX X :=
 ⟨ownI_other h.own fun k hk => hb.block k (World.ownsRow.lt h.own k hk).2, h.rx.below hb h.lt, h.re.below hb h.lt, h.off, Nat.le_trans h.lt hb.size⟩
theorem RiSt.push {w w' : World} {O : Obj} {lo x0 x1 : Nat} {u u' vx vX : Value} {acc RL : List Int} {X : List Ed} {acc' : List Int} (h : RiSt w lo x0 x1 u acc vx RL vX X) (hg : (w.alloc O).grownBy w' u.ownBlock) (hloc : u'.ownBlock = u.ownBlock ∨ u'.ownBlock = some (w.heap.size + 1)) (hown : OwnsI w' lo u' acc') : RiSt w' lo x0 x1 u' acc' vx RL vX X := by
 have hsz : w.heap.size + 1 ≤ w'.heap.size := by have := hg.size; simpa using this
 have hl := h.lt
 have hk : ∀ k, x0 ≤ k → k < x1 → w'.heap[k]? = w.heap[k]? := fun k q1 q2 => by
  rw [hg.block k (by simp; omega) (fun e => by have := h.off k e.symm; omega), heap_alloc_old _ _ (by omega)]
 refine ⟨hown, h.rx.keep hk, h.re.keep hk, fun b hb' => ?_, by omega⟩
 rcases hloc with e | e
 · exact h.off b (by rw [← e]; exact hb')
 · rw [e] at hb'; cases hb'; right; omega
theorem nuT_yes {X : List Ed} {v l y : Int} {k : Nat} (h : X.getD k e0 = eB v l y) : nuT X v l y (k + 1) = nuT X v l y k ++ [sgK l k] := if_pos h
theorem nuT_no {X : List Ed} {v l y : Int} {k : Nat} (h : X.getD k e0 ≠ eB v l y) : nuT X v l y (k + 1) = nuT X v l y k := if_neg h
set_option maxRecDepth 100000 in
set_option maxHeartbeats 12800000 in
theorem specRewrite (w : World) (r s : Int) (v : Value) (es : List Ed) (vz : Value) (zs : List Int) (h : ReadE w.heap.size w v es) (hz : ReadI w.heap.size w vz zs) (hs : -9223372036854775808 ≤ s ∧ s ≤ 9223372036854775807) (hin : InR zs) (hl : es.length ≤ 10000000) (hlz : zs.length ≤ 10000000) :
 Calls Tryz.prog 30 #[.agg #[.int .i64 r, .int .i64 s, v], vz] w (LwIntsBool w (riL r s es zs) (inSu r s es zs)) := by
 obtain ⟨a, cap, rfl, hnc⟩ := h.form
 have hz' := hz
 obtain ⟨_, az, capz, rfl, _, _⟩ := hz'
 obtain ⟨n, hn⟩ := exq es.length
 rw [← hn] at hl hnc ⊢
 rw [← hn] at h
 obtain ⟨w1, hw1⟩ := exq (w.alloc (.cells #[.int .i64 r, .int .i64 s, .slice a n cap] 26))
 have hb1 : Below w.heap.size w w1 := by rw [hw1]; exact (Below.refl _ _).alloc (Nat.le_refl _) _
 have hs1 : w.heap.size < w1.heap.size := by rw [hw1]; simp
 obtain ⟨g0, g1, g2⟩ := box3 hw1
 obtain ⟨w2, hw2⟩ := exq (w1.alloc (.cells #[] 3))
 have hb2 : Below w1.heap.size w1 w2 := by rw [hw2]; exact (Below.refl _ _).alloc (Nat.le_refl _) _
 have hs2 : w1.heap.size < w2.heap.size := by rw [hw2]; simp
 have hown2 : OwnsI w2 w1.heap.size (.slice (some ⟨w1.heap.size, 0, none⟩) 0 0) [] := by rw [hw2]; exact OwnsI.lit w1
 have hb12 := hb1.trans (hb2.mono hb1.size)
 have hred := specRed w2 (.slice az zs.length capz) zs ((hz.below hb12).mono hb12.size) (by omega)
 obtain ⟨F, hF⟩ := exq (riL r s es zs)
 obtain ⟨I, hI⟩ := exq (inSu r s es zs)
 obtain ⟨RL, hRL⟩ := exq (redL zs)
 obtain ⟨X, hX⟩ := exq (exE r s es)
 have hRin : InR RL := by rw [hRL]; exact redL_in hin
 have hRr : redL RL = RL := by rw [hRL]; exact redL_redL hin
 have hRn : RL.length ≤ 10000000 := by rw [hRL]; have := redL_length zs; omega
 have hIR : inSu r s es RL = I := by rw [hI]; unfold inSu; rw [hRr, hRL]
 have hno : I = false → F = [] := fun q => by rw [hF]; unfold riL; rw [if_neg (by rw [← hI, q]; decide)]
 have hyes : I = true → F = rwN X es 0 RL ∧ redL F = F ∧ isCo r s es = true ∧ Rd es 0 RL 0 ∧ X.Nodup ∧ (∀ e ∈ X, e ∈ es) ∧ X.length ≤ 120 := fun q => by
  have hq : inSu r s es zs = true := by rw [← hI]; exact q
  have hco : isCo r s es = true := by unfold inSu at hq; simp only [Bool.and_eq_true] at hq; exact hq.1.1
  have hfo := (co_parts hco).1
  have hR : Rd es 0 RL 0 := by rw [hRL]; exact (inSu_rd hco hin).1 hq
  have hFe : F = rwN X es 0 RL := by rw [hF, hX, hRL]; unfold riL; rw [if_pos hq]
  refine ⟨hFe, ?_, hco, hR, by rw [hX]; exact exE_nd hfo, fun e he => by rw [hX, exE_mem hfo] at he; exact he.1, by rw [hX]; exact exE_length r s es⟩
  rw [hFe, hX]
  exact rw_redL hco hR (by rw [hRL]; exact red_redL hin)
 have hFl : F.length ≤ 10000000 := by rw [hF]; have := riL_length r s es zs; omega
 have hcon := fun (W : World) (hW : Below w.heap.size w W) (vr : Value) (hr : ReadI W.heap.size W vr RL) => specCont W r s (.slice a n cap) es vr RL ((h.below hW).mono hW.size) hr hs hRin (by omega) hRn
 have hext := fun (W : World) (hW : Below w.heap.size w W) => specExtra W r s (.slice a n cap) es ((h.below hW).mono hW.size) hs (by omega)
 have hnxt := fun (W : World) (hW : Below w.heap.size w W) (y l : Int) => specNext W r s (.slice a n cap) es y l ((h.below hW).mono hW.size) (by omega)
 obtain ⟨m, hm⟩ := exq zs.length
 rw [← hRL, ← hm] at hred
 rw [hIR] at hcon
 rw [← hX] at hext
 rw [← hF, ← hI, ← hm]
 rw [← hm] at hz hlz
 replace g0 := below_cell g0 hb2 hs1
 replace g1 := below_cell g1 hb2 hs1
 replace g2 := below_cell g2 hb2 hs1
 replace hcon := hidI hcon
 replace hext := hidI hext
 replace hnxt := hidI hnxt
 replace hno := hidI hno
 replace hyes := hidI hyes
 replace hIR := hidI hIR
 replace hRr := hidI hRr
 replace hRin := hidI hRin
 replace hF := hidI hF
 replace hI := hidI hI
 replace hRL := hidI hRL
 replace hX := hidI hX
 replace hn := hidI hn
 replace hm := hidI hm
 replace h := hidI h
 replace hz := hidI hz
 replace hin := hidI hin
 replace hown2 := hidI hown2
 replace hb12 := hidI hb12
 have hw1s := hidI hw1.symm
 have hw2s := hidI hw2.symm
 replace hw1 := hidI hw1
 replace hw2 := hidI hw2
 go_enter Tryz.func30, Tryz.ntmps30
 go_upto_region 1 with fail
 rw [hw1s.out]
 go_upto_region 2 with fail
 rw [hw2s.out]
 go_wp2_with fail
 refine hred.mono ?_
 rintro e w3 ⟨vr, rfl, hrow3, hb3⟩
 clear hred
 have hs3 := hb3.size
 obtain ⟨M, hM⟩ := exq RL.length
 have hrd3 := hrow3.read
 have hrd3' := hrd3
 obtain ⟨_, ar, cr, rfl, _, _⟩ := hrd3'
 have hown3 := hidI (ownI_other hown2.out fun k hk => hb3.block k (World.ownsRow.lt hown2.out k hk).2)
 have hb13 := hidI (hb2.trans (hb3.mono hb2.size))
 have hbw3 := hb1.trans (hb13.out.mono hb1.size)
 have hcl := hcon.out w3 hbw3 _ hrd3
 replace g0 := below_cell g0 hb3 (by omega)
 replace g1 := below_cell g1 hb3 (by omega)
 replace g2 := below_cell g2 hb3 (by omega)
 rw [← hM] at hRn hcl hrow3 ⊢
 replace hrow3 := hidI hrow3
 replace hrd3 := hidI hrd3
 replace hM := hidI hM
 clear hb3
 go_wp2_with fail
 refine hcl.mono ?_
 rintro e w4 ⟨rfl, hb4⟩
 clear hcl
 have hs4 := hb4.size
 replace g0 := below_cell g0 hb4 (by omega)
 replace g1 := below_cell g1 hb4 (by omega)
 replace g2 := below_cell g2 hb4 (by omega)
 have hb14 := hidI (hb13.out.trans (hb4.mono hb13.out.size))
 have hown4 := hidI (ownI_other hown3.out fun k hk => hb4.block k (World.ownsRow.lt hown3.out k hk).2)
 have hrow4 := hidI (hrow3.out.below hb4 (Nat.le_refl _))
 clear hb4
 cases I with
 | false =>
  have hfin : LwIntsBool w F false (.returned (.tuple #[.slice (some ⟨w1.heap.size, 0, none⟩) 0 0, .bool false])) w4 := by
   rw [hno.out (by first | rfl | trivial)]
   exact ⟨_, rfl, (hown4.out.row (by simp)).wide hb1.size (Nat.le_refl _), hb1.trans (hb14.out.mono hb1.size)⟩
  replace hfin := hidI hfin
  replace hI := hidI hI
  clear g0 g1 g2
  go_wp2
  go_ret2
  exact hfin.out
 | true =>
 obtain ⟨hFe, hFr, hco, hR0, hnd, hXs, hXl⟩ := hyes.out (by first | rfl | trivial)
 replace hI := hidI hI
 obtain ⟨hg, hf⟩ := co_fold hco
 have hlim := isGr_lim hg
 have hcx := hext.out w4 (hb1.trans (hb14.out.mono hb1.size))
 replace hFe := hidI hFe
 replace hFr := hidI hFr
 replace hco := hidI hco
 replace hR0 := hidI hR0
 replace hnd := hidI hnd
 replace hXs := hidI hXs
 replace hg := hidI hg
 replace hf := hidI hf
 replace hlim := hidI hlim
 go_wp2_with fail
 refine hcx.mono ?_
 rintro e w5 ⟨xa, xc, rfl, hrow5, hb5⟩
 clear hcx
 have hs5 := hb5.size
 obtain ⟨N, hN⟩ := exq X.length
 have hst5 : RiSt w5 w1.heap.size w2.heap.size w5.heap.size (.slice (some ⟨w1.heap.size, 0, none⟩) 0 0) [] (.slice ar M cr) RL (.slice xa X.length xc) X :=
  ⟨ownI_other hown4.out fun k hk => hb5.block k (World.ownsRow.lt hown4.out k hk).2, (hrow4.out.below hb5 (by omega)).wide (Nat.le_refl _) (by omega), hrow5.wide (by omega) (Nat.le_refl _), fun b hb' => by cases hb'; left; exact hs2, Nat.le_refl _⟩
 have hb15 := hidI (hb14.out.trans (hb5.mono hb14.out.size))
 rw [← hN] at hst5 hXl ⊢
 have hk0 : Hid (Rd es 0 (RL.drop 0) 0 ∧ [] ++ rwN X es 0 (RL.drop 0) = F ∧ (0 : Int) ≤ 0 ∧ (0 : Int) < s) := hidI ⟨by rw [List.drop_zero]; exact hR0.out, by rw [List.drop_zero, List.nil_append]; exact hFe.out.symm, by omega, by have := hlim.out; omega⟩
 have hgk := heap_alloc_new w (.cells #[.int .i64 r, .int .i64 s, .slice a n cap] 26)
 rw [hw1s.out] at hgk
 replace hgk := hidI hgk
 replace hst5 := hidI hst5
 replace hrow5 := hidI hrow5
 replace hN := hidI hN
 clear hb5 g0 g1 g2
 go_wp2
 go_loopg [6, 9, 10, 11, 12] M (fun g u yv iv_ zv kv wr => ∃ (i : Nat) (y : Int) (acc : List Int), i + g = M ∧ iv_ = .int .i64 i ∧ yv = .int .i64 y ∧ Hid (Rd es y (RL.drop i) 0 ∧ acc ++ rwN X es y (RL.drop i) = F ∧ 0 ≤ y ∧ y < s) ∧ Hid (RiSt wr w1.heap.size w2.heap.size w5.heap.size u acc (.slice ar M cr) RL (.slice xa N xc) X) ∧ Hid (Below w1.heap.size w1 wr))
 case atStart => exact ⟨0, 0, [], by omega, rfl, rfl, hk0, hst5, hb15⟩
 case round =>
  clear hst5 hk0
  obtain ⟨i, y, acc, hi, rfl, rfl, hk, hst, hb⟩ := hrel
  have hsr := hb.out.size
  have hrl : w5.heap.size ≤ wr.heap.size := hst.out.lt
  obtain ⟨ua, um, uc, rfl⟩ := OwnsI.form4 hst.out.own
  by_cases hlt : i < M
  case neg =>
   obtain rfl : i = M := by omega
   have hki : ¬ (i : Int) < (i : Int) := by omega
   have hacc := hk.out.2.1
   rw [List.drop_eq_nil_of_le (by have := hM.out; omega), rwN, List.append_nil] at hacc
   rw [hacc] at hst
   have hcr := specRed wr (.slice ua um uc) F ((hst.out.own.row (by omega)).read) (by omega)
   rw [hFr.out] at hcr
   have hbw := hidI (hb1.trans (hb.out.mono hb1.size))
   replace hacc := hidI hacc
   replace hi := hidI hi
   replace hk := hidI hk
   replace hst := hidI hst
   go_wp2_with fail
   refine hcr.mono ?_
   rintro e w9 ⟨v9, rfl, hrow9, hb9⟩
   clear hcr
   have hfin : LwIntsBool w F true (.returned (.tuple #[v9, .bool true])) w9 := ⟨_, rfl, hrow9.wide hbw.out.size (Nat.le_refl _), hbw.out.trans (hb9.mono hbw.out.size)⟩
   replace hfin := hidI hfin
   clear hrow9 hb9
   go_wp2
   go_ret2
   exact hfin.out
  have hki : (i : Int) < (M : Int) := by omega
  have hil : i < RL.length := by have := hM.out; omega
  obtain ⟨hR, hacc, hy0, hys⟩ := hk.out
  rw [drop_cons hil] at hR hacc
  obtain ⟨l, hl_⟩ := exq (RL.getD i 0)
  rw [← hl_] at hR hacc
  obtain ⟨z, hS, hR2⟩ := hR
  have hnx := nx_at hg.out hf.out hS
  rw [rwN, hnx] at hacc
  have hvt := stepAt_vert hg.out hS
  have hlm := hlim.out
  have hcn := fun (W : World) (hW : Below w.heap.size w W) => hnxt.out W hW y l
  rw [hnx] at hcn
  have hrdx : ReadI w5.heap.size wr (.slice ar M cr) RL := hst.out.rx.read
  obtain ⟨bx, ox, hra, hbx, c0⟩ := hrdx.at2 i hil
  subst hra
  rw [← hl_] at c0
  have hgr := (hb.out.block w.heap.size hs1).trans hgk.out
  obtain ⟨q0, q1, q2⟩ := cell3 hgr
  simp at q0 q1 q2
  obtain ⟨wd, hwd⟩ := exq wr.drew
  have hbd : Below wr.heap.size wr wd := by rw [hwd]; exact below_dn (Below.refl _ _) 1
  have hsd := hbd.size
  have x0 := below_cell q0 hbd (by omega)
  have x1 := below_cell q1 hbd (by omega)
  have x2 := below_cell q2 hbd (by omega)
  have y0 := below_cell c0 hbd (by omega)
  have hcl := hcn wd (hb1.trans ((hb.out.trans (hbd.mono hb.out.size)).mono hb1.size))
  have hlw : w.heap.size < wd.heap.size := by omega
  have hlx : bx < wd.heap.size := by omega
  replace hgr := hidI hgr
  replace hwd := hidI hwd
  replace hnx := hidI hnx
  replace hl_ := hidI hl_
  replace hS := hidI hS
  replace hR2 := hidI hR2
  replace hacc := hidI hacc
  replace hvt := hidI hvt
  replace hlm := hidI hlm
  replace hi := hidI hi
  replace hrdx := hidI hrdx
  replace hk := hidI hk
  clear c0 q0 q1 q2 hcn
  go_wp2
  refine hideQ (fun _ _ d _ _ h => by cases d <;> exact h) (fun Q' hnorm hpan => ?_)
  refine wp_region_held_drew (S := (fun W0 => W0.cell? ⟨w.heap.size, 0, none⟩ = some (.int .i64 r) ∧ W0.cell? ⟨w.heap.size, 1, none⟩ = some (.int .i64 s) ∧ W0.cell? ⟨w.heap.size, 2, none⟩ = some (.slice a n cap) ∧ W0.cell? ⟨bx, ox + i, none⟩ = some (.int .i64 l))) (by kernel_rfl) ?_ (fun hHeld => ?_)
  · try dsimp only
    rw [← hwd.out]; exact ⟨x0, x1, x2, y0⟩
  rw [← hwd.out] at hHeld ⊢
  refine tk 0 29 ?_
  refine tk 1 30 ?_
  refine tk 2 31 ?_
  refine tk 3 32 ?_
  refine tk 4 33 ?_
  refine tk 5 34 ?_
  refine rd 6 (fun K hK => ?_)
  rw [if_pos (by rfl)]
  go_simp
  refine hcl.mono ?_
  rintro e w6 ⟨rfl, hb6⟩
  clear hcl
  replace x0 := below_cell x0 hb6 hlw
  replace x1 := below_cell x1 hb6 hlw
  replace x2 := below_cell x2 hb6 hlw
  replace y0 := below_cell y0 hb6 hlx
  have hbr6 := hidI (hbd.trans (hb6.mono hbd.size))
  clear hbd hb6
  refine hK.out _ _ ?_ (fun hHeld => ?_)
  · try dsimp only
    exact ⟨x0, x1, x2, y0⟩
  clear hK
  try simp only [Act.put, lyA, lyB, lyC]
  refine tk 7 11 ?_
  refine wpAnyH_done (by kernel_rfl) ?_ _
  refine hnorm _ _ ?_
  clear hnorm hpan
  repeat clear hHeld
  try simp only [Exit.then]
  have hst6 := hidI (hst.out.below hbr6.out)
  have hb16 := hidI (hb.out.trans (hbr6.out.mono hsr))
  have hn0 : Hid (RiSt w6 w1.heap.size w2.heap.size w5.heap.size (.slice ua um uc) (acc ++ nuT X y l z 0) (.slice (some ⟨bx, ox, none⟩) M cr) RL (.slice xa N xc) X) := hidI (by rw [nuT, List.append_nil]; exact hst6.out)
  replace hst := hidI hst
  clear x0 x1 x2 y0 hsd hlw hlx
  have hlr : -3 ≤ l ∧ l ≤ 3 := by have := hvt.out; have := hlm.out; omega
  have hl0 : l ≠ 0 := hvt.out.2.2.2.2
  have hal : acc.length ≤ 10000000 := by
   have := congrArg List.length hacc.out
   rw [List.length_append] at this
   omega
  have hng : IntKind.i64.wrap (-l) = -l := IntWalk.i64_in _ (by omega)
  replace hng := hidI hng
  go_wp2
  go_loopg [6, 12] N (fun g u kv wx => ∃ k : Nat, k + g = N ∧ kv = .int .i64 k ∧ Hid (RiSt wx w1.heap.size w2.heap.size w5.heap.size u (acc ++ nuT X y l z k) (.slice (some ⟨bx, ox, none⟩) M cr) RL (.slice xa N xc) X) ∧ Hid (Below w1.heap.size w1 wx))
  case atStart => exact ⟨0, by omega, rfl, hn0, hb16⟩
  case round =>
   clear hn0 hb16
   obtain ⟨k, hk2, rfl, hsx, hbx2⟩ := hrel
   obtain ⟨va, vm, vc, rfl⟩ := OwnsI.form4 hsx.out.own
   have hsw := hbx2.out.size
   have hlw : w5.heap.size ≤ wr.heap.size := hsx.out.lt
   by_cases hkn : k < N
   case neg =>
    obtain rfl : k = N := by omega
    have hkk : ¬ (k : Int) < (k : Int) := by omega
    have hnext : Hid (Rd es z (RL.drop (i + 1)) 0 ∧ (acc ++ nuT X y l z k) ++ rwN X es z (RL.drop (i + 1)) = F ∧ 0 ≤ z ∧ z < s) := hidI ⟨hR2.out, by rw [← hacc.out, List.append_assoc, hN.out]; rfl, hvt.out.2.1.1, hvt.out.2.1.2⟩
    replace hk2 := hidI hk2
    go_wp2
    go_roundg (M - (i + 1))
    case rel => exact ⟨i + 1, z, _, by have := hi.out; omega, by go_num, rfl, hnext, hsx, hbx2⟩
    case measure => have := hi.out; omega
   have hkk : (k : Int) < (N : Int) := by omega
   have hkl : k < X.length := by have := hN.out; omega
   have hil2 : i < RL.length := by have := hM.out; omega
   have hrdX : ReadE w5.heap.size wr (.slice xa N xc) X := by
    have := hsx.out.re.read
    exact this
   obtain ⟨be, oe, hxa, hbe, e0_, e1_, e2_⟩ := ReadE.at3 hrdX k hkl
   subst hxa
   have hcell := fun (W : World) (q : RiSt W w1.heap.size w2.heap.size w5.heap.size (.slice va vm vc) (acc ++ nuT X y l z k) (.slice (some ⟨bx, ox, none⟩) M cr) RL (.slice (some ⟨be, oe, none⟩) N xc) X) => q.rx.read
   have cl : wr.cell? ⟨bx, ox + i, none⟩ = some (.int .i64 l) := by
    obtain ⟨b', o', e', _, c'⟩ := (hsx.out.rx.read).at2 i hil2
    simp only [Option.some.injEq, Addr.mk.injEq] at e'
    obtain ⟨e1, e2, _⟩ := e'
    rw [hl_.out, e1, e2]; exact c'
   obtain ⟨f', l', t', hE'⟩ : ∃ f l t, X.getD k e0 = (f, l, t) := ⟨_, _, _, rfl⟩
   rw [hE'] at e0_ e1_ e2_
   simp only at e0_ e1_ e2_
   have hbd : Below wr.heap.size wr wr.drew := below_dn (Below.refl _ _) 1
   have hsxd := hidI (hsx.out.below hbd)
   have hbxd := hidI (hbx2.out.trans (hbd.mono hsw))
   have hbdd : Below wr.drew.heap.size wr.drew wr.drew.drew := below_dn (Below.refl _ _) 1
   have hsxdd := hidI (hsxd.out.below hbdd)
   have hbxdd := hidI (hbxd.out.trans (hbdd.mono hbxd.out.size))
   have hal2 : (acc ++ nuT X y l z k).length ≤ 20000000 := by rw [List.length_append]; have := nuT_len X y l z k; omega
   have hsdw : w1.heap.size ≤ wr.drew.heap.size := hbxd.out.size
   clear hcell hbd hbdd
   obtain ⟨AC, hAC⟩ := exq (acc ++ nuT X y l z k)
   rw [← hAC] at hsx hsxd hsxdd hal2
   have hyes2 : X.getD k e0 = eB y l z → acc ++ nuT X y l z (k + 1) = AC ++ [sgK l k] := fun q => by rw [nuT_yes q, ← List.append_assoc, hAC]
   have hno2 : X.getD k e0 ≠ eB y l z → acc ++ nuT X y l z (k + 1) = AC := fun q => by rw [nuT_no q, hAC]
   rw [hE'] at hyes2 hno2
   replace hAC := hidI hAC
   replace hyes2 := hidI hyes2
   replace hno2 := hidI hno2
   replace hE' := hidI hE'
   replace hrdX := hidI hrdX
   replace hk2 := hidI hk2
   by_cases hpos : 0 < l
   · have hp1 : decide (0 < l) = true := decide_eq_true hpos
     have hp2 : decide (l < 0) = false := decide_eq_false (by omega)
     have hEB : eB y l z = (y, l, z) := by unfold eB; rw [if_neg (by omega)]
     rw [hEB] at hyes2 hno2
     replace hpos := hidI hpos
     replace hl0 := hidI hl0
     replace hlr := hidI hlr
     replace hEB := hidI hEB
     by_cases z1 : f' = y
     · by_cases z2 : l' = l
       · by_cases z3 : t' = z
         · have hy2 := hidI (hyes2.out (by rw [z1, z2, z3]))
           rw [z1] at e0_
           rw [z2] at e1_
           rw [z3] at e2_
           clear z1 z2 z3
           have hsg : ((k : Int) + 1) = sgK l k := by have := hpos.out; unfold sgK; split <;> omega
           obtain ⟨wd, hwd2⟩ := exq wr.drew
           rw [← hwd2] at hsxd hbxd hsdw
           have hwds := hidI hwd2.symm
           replace hwd2 := hidI hwd2
           go_wp2
           go_region
           rw [hwds.out]
           go_wp2_with (at_builtin; go_must (refine wpList_pushI_at rfl _ _ rfl w1.heap.size (.slice va vm vc) AC _ rfl rfl (by exact hsxd.out.own) (by omega) (by exact hsdw) ?_))
           intro v' w7 ho7 hg7 hl7
           have hst7 := hsxd.out.push hg7 hl7 ho7
           rw [← hy2.out] at hst7
           have hb7 : Below w1.heap.size wd w7 := ((Below.refl w1.heap.size wd).alloc hsdw _).grown hg7 (by simp; omega) (fun k hk => (World.ownsRow.lt hsxd.out.own k hk).1)
           have hb17 := hidI (hbxd.out.trans hb7)
           have cl7 : w7.cell? ⟨bx, ox + i, none⟩ = some (.int .i64 l) := by
            obtain ⟨b', o', e', _, c'⟩ := (hst7.rx.read).at2 i hil2
            simp only [Option.some.injEq, Addr.mk.injEq] at e'
            obtain ⟨e1, e2, _⟩ := e'
            rw [hl_.out, e1, e2]; exact c'
           have hb8 : Below w7.heap.size w7 w7.drew := below_dn (Below.refl _ _) 1
           have hst8 := hidI (hst7.below hb8)
           have hb18 := hidI (hb17.out.trans (hb8.mono hb17.out.size))
           replace hst7 := hidI hst7
           replace hsg := hidI hsg
           clear ho7 hg7 hl7 hb7 hb8 cl e0_ e1_ e2_
           go_wp2
           go_region
           go_wp2
           go_roundg (N - (k + 1))
           case rel => exact ⟨k + 1, by have := hk2.out; omega, by go_num, hst8, hb18⟩
           case measure => have := hk2.out; omega
         · rw [z1] at e0_
           rw [z2] at e1_
           clear z1 z2
           have hn2 := hno2.out (by intro hh; simp only [Prod.mk.injEq] at hh; exact z3 hh.2.2)
           rw [← hn2] at hsxdd
           replace hn2 := hidI hn2
           go_wp2
           go_region
           go_wp2
           go_region
           go_wp2
           go_roundg (N - (k + 1))
           case rel => exact ⟨k + 1, by have := hk2.out; omega, by go_num, hsxdd, hbxdd⟩
           case measure => have := hk2.out; omega
       · rw [z1] at e0_
         clear z1
         have hn2 := hno2.out (by intro hh; simp only [Prod.mk.injEq] at hh; exact z2 hh.2.1)
         rw [← hn2] at hsxdd
         replace hn2 := hidI hn2
         go_wp2
         go_region
         go_wp2
         go_region
         go_wp2
         go_roundg (N - (k + 1))
         case rel => exact ⟨k + 1, by have := hk2.out; omega, by go_num, hsxdd, hbxdd⟩
         case measure => have := hk2.out; omega
     · skip
       have hn2 := hno2.out (by intro hh; simp only [Prod.mk.injEq] at hh; exact z1 hh.1)
       rw [← hn2] at hsxdd
       replace hn2 := hidI hn2
       go_wp2
       go_region
       go_wp2
       go_region
       go_wp2
       go_roundg (N - (k + 1))
       case rel => exact ⟨k + 1, by have := hk2.out; omega, by go_num, hsxdd, hbxdd⟩
       case measure => have := hk2.out; omega
   · have hp1 : decide (0 < l) = false := decide_eq_false hpos
     have hp2 : decide (l < 0) = true := decide_eq_true (by omega)
     have hEB : eB y l z = (z, -l, y) := by unfold eB; rw [if_pos (by omega)]
     have hng2 := hng.out
     rw [hEB] at hyes2 hno2
     replace hpos := hidI hpos
     replace hl0 := hidI hl0
     replace hlr := hidI hlr
     replace hEB := hidI hEB
     by_cases z1 : f' = z
     · by_cases z2 : l' = -l
       · by_cases z3 : t' = y
         · have hy2 := hidI (hyes2.out (by rw [z1, z2, z3]))
           rw [z1] at e0_
           rw [z2] at e1_
           rw [z3] at e2_
           clear z1 z2 z3
           have hsg : (-(k : Int) - 1) = sgK l k := by have := hpos.out; unfold sgK; split <;> omega
           replace hsg := hidI hsg
           obtain ⟨wd, hwd2⟩ := exq wr.drew.drew
           rw [← hwd2] at hsxdd hbxdd
           have hwds := hidI hwd2.symm
           replace hwd2 := hidI hwd2
           go_wp2
           go_region
           go_wp2
           go_region
           rw [hwds.out]
           have hsdw2 : w1.heap.size ≤ wd.heap.size := hbxdd.out.size
           go_wp2_with (at_builtin; go_must (refine wpList_pushI_at rfl _ _ rfl w1.heap.size (.slice va vm vc) AC _ rfl rfl (by exact hsxdd.out.own) (by omega) (by exact hsdw2) ?_))
           intro v' w7 ho7 hg7 hl7
           try rw [hsg.out] at ho7
           have hst7 := hsxdd.out.push hg7 hl7 ho7
           rw [← hy2.out] at hst7
           have hb7 : Below w1.heap.size wd w7 := ((Below.refl w1.heap.size wd).alloc hsdw2 _).grown hg7 (by simp; omega) (fun k hk => (World.ownsRow.lt hsxdd.out.own k hk).1)
           have hb17 := hidI (hbxdd.out.trans hb7)
           replace hst7 := hidI hst7
           replace hsg := hidI hsg
           clear ho7 hg7 hl7 hb7 cl e0_ e1_ e2_
           go_wp2
           go_roundg (N - (k + 1))
           case rel => exact ⟨k + 1, by have := hk2.out; omega, by go_num, hst7, hb17⟩
           case measure => have := hk2.out; omega
         · rw [z1] at e0_
           rw [z2] at e1_
           clear z1 z2
           have hn2 := hno2.out (by intro hh; simp only [Prod.mk.injEq] at hh; exact z3 hh.2.2)
           rw [← hn2] at hsxdd
           replace hn2 := hidI hn2
           go_wp2
           go_region
           go_wp2
           go_region
           go_wp2
           go_roundg (N - (k + 1))
           case rel => exact ⟨k + 1, by have := hk2.out; omega, by go_num, hsxdd, hbxdd⟩
           case measure => have := hk2.out; omega
       · rw [z1] at e0_
         clear z1
         have hn2 := hno2.out (by intro hh; simp only [Prod.mk.injEq] at hh; exact z2 hh.2.1)
         rw [← hn2] at hsxdd
         replace hn2 := hidI hn2
         go_wp2
         go_region
         go_wp2
         go_region
         go_wp2
         go_roundg (N - (k + 1))
         case rel => exact ⟨k + 1, by have := hk2.out; omega, by go_num, hsxdd, hbxdd⟩
         case measure => have := hk2.out; omega
     · skip
       have hn2 := hno2.out (by intro hh; simp only [Prod.mk.injEq] at hh; exact z1 hh.1)
       rw [← hn2] at hsxdd
       replace hn2 := hidI hn2
       go_wp2
       go_region
       go_wp2
       go_region
       go_wp2
       go_roundg (N - (k + 1))
       case rel => exact ⟨k + 1, by have := hk2.out; omega, by go_num, hsxdd, hbxdd⟩
       case measure => have := hk2.out; omega
end Go.Proofs.YtpjlamnjiilgbaaGreat
