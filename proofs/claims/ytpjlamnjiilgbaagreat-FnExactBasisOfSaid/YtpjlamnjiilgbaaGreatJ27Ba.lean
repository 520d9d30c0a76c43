import Derived.Deep.Cut
import Derived.Deep.LoopGhost
import Derived.Test.YtpjlamnjiilgbaaGreatJ13Ba
import Derived.Test.YtpjlamnjiilgbaaGreatJ18Ba
import Derived.Test.YtpjlamnjiilgbaaGreatJ22Ba
import Derived.Test.YtpjlamnjiilgbaaGreatJ23Ba
import Derived.Test.YtpjlamnjiilgbaaGreatJ12Ba
import Derived.Test.YtpjlamnjiilgbaaGreatJ26Ba
namespace Go.Proofs.YtpjlamnjiilgbaaGreat
open Go.RowKit Go.Maps
set_option linter.unusedVariables false
set_option linter.unusedSimpArgs false
theorem baL_length (r s : Int) (es : List Ed) : (baL r s es).length ≤ 120 := by
 unfold baL
 split
 · rw [List.length_map]; exact exE_length r s es
 · simp
theorem baL_len {r s : Int} {es : List Ed} {z : List Int} (hz : z ∈ baL r s es) : z.length ≤ 81 := by
 unfold baL at hz
 split at hz
 · obtain ⟨e, _, rfl⟩ := List.mem_map.1 hz
   exact loL_length r s es e
 · cases hz
theorem sumN_mul (k : Nat) : ∀ zss : List (List Int), (∀ z ∈ zss, z.length ≤ k) → sumN (zss.map List.length) ≤ zss.length * k := by
 intro zss
 induction zss with
 | nil => intro _; simp [sumN]
 | cons z zss ih =>
  intro h
  have h1 := ih fun y hy => h y (List.mem_cons_of_mem _ hy)
  have h2 := h z List.mem_cons_self
  rw [List.map_cons, sumN, List.length_cons, Nat.add_mul]
  omega
theorem baL_sum (r s : Int) (es : List Ed) : sumN ((baL r s es).map List.length) ≤ 9720 := by
 have h1 := sumN_mul 81 (baL r s es) fun z hz => baL_len hz
 have h2 := baL_length r s es
 omega
theorem baL_le (r s : Int) (es : List Ed) : (baL r s es).length ≤ 1000000000 ∧ sumN ((baL r s es).map List.length) ≤ 100000000 := by
 have h1 := baL_length r s es
 have h2 := baL_sum r s es
 omega
structure BaSt (w : World) (lo x0 x1 : Nat) (u : Value) (us : List Value) (zss : List (List Int)) (vX : Value) (X : List Ed) : Prop where
 gr : GrW w lo u us zss
 row : RowS 72 3 w x0 x1 vX X.length (flatE X)
 off : ∀ b, u.ownBlock = some b → b < x0 ∨ x1 ≤ b
 lt : x1 ≤ w.heap.size
theorem BaSt.below {w w' : World} {lo x0 x1 : Nat} {u : Value} {us : List Value} {zss : List (List Int)} {vX : Value} {X : List Ed} (h : BaSt w lo x0 x1 u us zss vX X) (hb : Below w.heap.size w w') : BaSt w' lo x0 x1 u us zss vX X :=
 ⟨h.gr.below hb, h.row.below hb h.lt, h.off, Nat.le_trans h.lt hb.size⟩
theorem BaSt.push {w w2 w3 : World} {O : Obj} {lo x0 x1 : Nat} {u u' x : Value} {us : List Value} {zss : List (List Int)} {zs : List Int} {vX : Value} {X : List Ed} (h : BaSt w lo x0 x1 u us zss vX X) (hlo : lo ≤ w.heap.size) (hb : Below w.heap.size w w2) (hrow : RowI w2 w.heap.size w2.heap.size x zs)
 (hg : (w2.alloc O).grownBy w3 u.ownBlock) (hloc : u'.ownBlock = u.ownBlock ∨ u'.ownBlock = some (w2.heap.size + 1)) (hown : OwnsW w3 lo u' (us ++ [x])) : BaSt w3 lo x0 x1 u' (us ++ [x]) (zss ++ [zs]) vX X := by
 have hsz : w2.heap.size + 1 ≤ w3.heap.size := by have := hg.size; simpa using this
 have hs2 := hb.size
 have hl := h.lt
 refine ⟨h.gr.push hlo hb hrow hg hloc hown, (h.row.below hb h.lt).keep fun k q1 q2 => ?_, fun b hb' => ?_, by omega⟩
 · rw [hg.block k (by simp; omega) (fun e => by have := h.off k e.symm; omega), heap_alloc_old _ _ (by omega)]
 · rcases hloc with e | e
   · exact h.off b (by rw [← e]; exact hb')
   · rw [e] at hb'; cases hb'; right; omega
theorem map_take_loL {f : Ed → List Int} {X : List Ed} {k : Nat} (h : k < X.length) : (X.take (k + 1)).map f = (X.take k).map f ++ [f (X.getD k e0)] := by
 rw [List.take_add_one, List.getElem?_eq_getElem h, List.map_append, List.getD_eq_getElem?_getD, List.getElem?_eq_getElem h]; rfl
set_option maxRecDepth 100000 in
set_option maxHeartbeats 6400000 in
theorem specBasis (w : World) (r s : Int) (v : Value) (es : List Ed) (h : ReadE w.heap.size w v es) (hs : -9223372036854775808 ≤ s ∧ s ≤ 9223372036854775807) (hl : es.length ≤ 10000000) :
 Calls Tryz.prog 14 #[.agg #[.int .i64 r, .int .i64 s, v]] w (LwWords w (baL r s es)) := by
 obtain ⟨a, cap, rfl, hnc⟩ := h.form
 obtain ⟨n, hn⟩ := exq es.length
 rw [← hn] at hl hnc ⊢
 rw [← hn] at h
 obtain ⟨w1, hw1⟩ := exq (w.alloc (.cells #[.int .i64 r, .int .i64 s, .slice a n cap] 26))
 have hb1 : Below w.heap.size w w1 := by rw [hw1]; exact (Below.refl _ _).alloc (Nat.le_refl _) _
 have hs1 : w.heap.size < w1.heap.size := by rw [hw1]; simp
 obtain ⟨g0, g1, g2⟩ := box3 hw1
 obtain ⟨w2, hw2⟩ := exq (w1.alloc (.cells #[] 46))
 have hb2 : Below w1.heap.size w1 w2 := by rw [hw2]; exact (Below.refl _ _).alloc (Nat.le_refl _) _
 have hs2 : w1.heap.size < w2.heap.size := by rw [hw2]; simp
 have hgr2 : GrW w2 w1.heap.size (.slice (some ⟨w1.heap.size, 0, none⟩) 0 0) [] [] := by rw [hw2]; exact GrW.lit w1
 replace g0 := below_cell g0 hb2 hs1
 replace g1 := below_cell g1 hb2 hs1
 replace g2 := below_cell g2 hb2 hs1
 have hb12 := hb1.trans (hb2.mono hb1.size)
 have hco := specIsSub w2 r s (.slice a n cap) es ((h.below hb12).mono hb12.size) hs (by omega)
 obtain ⟨B, hB⟩ := exq (isCo r s es)
 obtain ⟨F, hF⟩ := exq (baL r s es)
 obtain ⟨X, hX⟩ := exq (exE r s es)
 have hXl : X.length ≤ 120 := by rw [hX]; exact exE_length r s es
 have hno : B = false → F = [] := fun q => by rw [hF]; unfold baL; rw [if_neg (by rw [← hB, q]; decide)]
 have hyes : B = true → F = X.map (loL r s es) := fun q => by rw [hF, hX]; unfold baL; rw [if_pos (by rw [← hB, q])]
 have hext := fun (W : World) (hW : Below w.heap.size w W) => specExtra W r s (.slice a n cap) es ((h.below hW).mono hW.size) hs (by omega)
 have hloop := fun (W : World) (hW : Below w.heap.size w W) (f l t : Int) => specLoopOf W r s (.slice a n cap) es f l t ((h.below hW).mono hW.size) hs (by omega)
 rw [← hX] at hext
 rw [← hB] at hco
 rw [← hF]
 replace hext := hidI hext
 replace hloop := hidI hloop
 replace hno := hidI hno
 replace hyes := hidI hyes
 replace hF := hidI hF
 replace hX := hidI hX
 replace hB := hidI hB
 replace hn := hidI hn
 replace h := hidI h
 replace hgr2 := hidI hgr2
 replace hb12 := hidI hb12
 have hw1s := hidI hw1.symm
 have hw2s := hidI hw2.symm
 replace hw1 := hidI hw1
 replace hw2 := hidI hw2
 go_enter Tryz.func14, Tryz.ntmps14
 go_upto_region 1 with fail
 rw [hw1s.out]
 go_upto_region 2 with fail
 rw [hw2s.out]
 go_wp2_with fail
 refine hco.mono ?_
 rintro e w3 ⟨rfl, hb3⟩
 clear hco
 replace g0 := below_cell g0 hb3 (by omega)
 replace g1 := below_cell g1 hb3 (by omega)
 replace g2 := below_cell g2 hb3 (by omega)
 have hs3 := hb3.size
 have hb13 := hidI (hb2.trans (hb3.mono hb2.size))
 have hgr3 := hidI (hgr2.out.below hb3)
 clear hb3
 cases B with
 | false =>
  have hfin : LwWords w F (.returned (.slice (some ⟨w1.heap.size, 0, none⟩) 0 0)) w3 := by
   rw [hno.out rfl]
   exact ⟨_, [], rfl, (hgr3.out.done (by simp)).wide hb1.size (Nat.le_refl _), hb1.trans (hb13.out.mono hb1.size)⟩
  replace hfin := hidI hfin
  replace hB := hidI hB
  clear hb1 hb2
  go_wp2
  go_ret
  exact hfin.out
 | true =>
 have hFe := hidI (hyes.out rfl)
 replace hB := hidI hB
 have hcx := hext.out w3 (hb1.trans (hb13.out.mono hb1.size))
 go_wp2_with fail
 refine hcx.mono ?_
 rintro e w4 ⟨xa, xc, rfl, hrow4, hb4⟩
 clear hcx
 have hs4 := hb4.size
 obtain ⟨N, hN⟩ := exq X.length
 have hst4 : BaSt w4 w1.heap.size w3.heap.size w4.heap.size (.slice (some ⟨w1.heap.size, 0, none⟩) 0 0) [] [] (.slice xa X.length xc) X :=
  ⟨hgr3.out.below hb4, hrow4, fun b hb' => by cases hb'; left; show w1.heap.size < w3.heap.size; omega, Nat.le_refl _⟩
 have hb14 := hb13.out.trans (hb4.mono hb13.out.size)
 rw [← hN] at hst4 hXl ⊢
 replace hst4 := hidI hst4
 have hb14' := hidI hb14
 replace g0 := below_cell g0 hb4 (by omega)
 replace g1 := below_cell g1 hb4 (by omega)
 replace g2 := below_cell g2 hb4 (by omega)
 replace hrow4 := hidI hrow4
 replace hN := hidI hN
 clear hb4 hb14
 go_wp2
 go_loopg [3, 5, 6] N (fun g u k x wr => ∃ (i : Nat) (us : List Value), i + g = N ∧ k = .int .i64 i ∧ Hid (BaSt wr w1.heap.size w3.heap.size w4.heap.size u us ((X.take i).map (loL r s es)) (.slice xa N xc) X) ∧ Hid (Below w1.heap.size w1 wr))
 case atStart => exact ⟨0, [], by omega, rfl, by rw [List.take_zero]; exact hst4, hb14'⟩
 case round =>
  clear hst4 g0 g1 g2
  obtain ⟨i, us, hi, rfl, hst, hb⟩ := hrel
  have hbw := hidI (hb1.trans (hb.out.mono hb1.size))
  have hsr := hb.out.size
  have hrl : w4.heap.size ≤ wr.heap.size := hst.out.lt
  obtain ⟨ua, ucp, rfl⟩ := OwnsW.form hst.out.gr.1
  have hul := hst.out.gr.2.1
  obtain ⟨nu, hnu⟩ := exq us.length
  rw [List.length_map, List.length_take] at hul
  have hnu2 : nu ≤ 120 := by have := hN.out; omega
  rw [← hnu] at hst ⊢
  replace hul := hidI hul
  by_cases hlt : i < N
  · have hki : (i : Int) < (N : Int) := by omega
    have hil : i < X.length := by have := hN.out; omega
    have hrd : ReadE w4.heap.size wr (.slice xa N xc) X := hst.out.row.read
    obtain ⟨bx, ox, hxa, hbx, c0, c1, c2⟩ := ReadE.at3 hrd i hil
    subst hxa
    have q0 : wr.cell? ⟨w.heap.size, 0, none⟩ = some (.int .i64 r) := (hb.out.cell (p := (⟨w.heap.size, 0, none⟩ : Addr)) hs1).trans (by
     have := heap_alloc_new w (.cells #[.int .i64 r, .int .i64 s, .slice a n cap] 26)
     rw [← hw1.out] at this
     simpa using cell_of_heap this 0)
    have q1 : wr.cell? ⟨w.heap.size, 1, none⟩ = some (.int .i64 s) := (hb.out.cell (p := (⟨w.heap.size, 1, none⟩ : Addr)) hs1).trans (by
     have := heap_alloc_new w (.cells #[.int .i64 r, .int .i64 s, .slice a n cap] 26)
     rw [← hw1.out] at this
     simpa using cell_of_heap this 1)
    have q2 : wr.cell? ⟨w.heap.size, 2, none⟩ = some (.slice a n cap) := (hb.out.cell (p := (⟨w.heap.size, 2, none⟩ : Addr)) hs1).trans (by
     have := heap_alloc_new w (.cells #[.int .i64 r, .int .i64 s, .slice a n cap] 26)
     rw [← hw1.out] at this
     simpa using cell_of_heap this 2)
    have hstep := map_take_loL (f := loL r s es) hil
    obtain ⟨f, l, t, hE⟩ : ∃ f l t, X.getD i e0 = (f, l, t) := ⟨_, _, _, rfl⟩
    rw [hE] at c0 c1 c2 hstep
    simp only at c0 c1 c2
    obtain ⟨wd, hwd⟩ := exq wr.drew
    have hbd : Below wr.heap.size wr wd := by rw [hwd]; exact below_dn (Below.refl _ _) 1
    have hsd := hbd.size
    have x0 := below_cell q0 hbd (by omega)
    have x1 := below_cell q1 hbd (by omega)
    have x2 := below_cell q2 hbd (by omega)
    have y0 := below_cell c0 hbd (by omega)
    have y1 := below_cell c1 hbd (by omega)
    have y2 := below_cell c2 hbd (by omega)
    have hcl := hloop.out wd (hbw.out.trans (hbd.mono hbw.out.size)) f l t
    obtain ⟨Z, hZ⟩ := exq (loL r s es (f, l, t))
    rw [← hZ] at hcl hstep
    have hlw : w.heap.size < wd.heap.size := by omega
    have hlx : bx < wd.heap.size := by omega
    have hlo1 : w1.heap.size ≤ wr.heap.size := by omega
    replace hE := hidI hE
    replace hZ := hidI hZ
    replace hstep := hidI hstep
    replace hi := hidI hi
    replace hwd := hidI hwd
    replace hrd := hidI hrd
    replace hnu := hidI hnu
    clear c0 c1 c2 q0 q1 q2
    go_wp2
    refine hideQ (fun _ _ d _ _ h => by cases d <;> exact h) (fun Q' hnorm hpan => ?_)
    refine wp_region_held_drew (S := (fun W0 => W0.cell? ⟨w.heap.size, 0, none⟩ = some (.int .i64 r) ∧ W0.cell? ⟨w.heap.size, 1, none⟩ = some (.int .i64 s) ∧ W0.cell? ⟨w.heap.size, 2, none⟩ = some (.slice a n cap) ∧ W0.cell? ⟨bx, ox + i * 3, none⟩ = some (.int .i64 f) ∧ W0.cell? ⟨bx, ox + i * 3 + 1, none⟩ = some (.int .i64 l) ∧ W0.cell? ⟨bx, ox + i * 3 + 2, none⟩ = some (.int .i64 t))) (by kernel_rfl) ?_ (fun hHeld => ?_)
    · try dsimp only
      rw [← hwd.out]; exact ⟨x0, x1, x2, y0, y1, y2⟩
    rw [← hwd.out] at hHeld ⊢
    refine tk 0 20 ?_
    refine tk 1 21 ?_
    refine tk 2 22 ?_
    refine tk 3 23 ?_
    refine tk 4 24 ?_
    refine rd 5 (fun K hK => ?_)
    rw [if_pos (by rfl)]
    go_simp
    refine hcl.mono ?_
    rintro e w5 ⟨zv, rfl, hrow5, hb5⟩
    clear hcl
    replace x0 := below_cell x0 hb5 hlw
    replace x1 := below_cell x1 hb5 hlw
    replace x2 := below_cell x2 hb5 hlw
    replace y0 := below_cell y0 hb5 hlx
    replace y1 := below_cell y1 hb5 hlx
    replace y2 := below_cell y2 hb5 hlx
    have hbr5 := hidI (hbd.trans (hb5.mono hbd.size))
    obtain ⟨za, zm, zc, rfl⟩ : ∃ a m c, zv = Value.slice a m c := by
     obtain ⟨_, ⟨h1, _⟩ | ⟨g, off, cap, cur, h1, _⟩⟩ := hrow5 <;> exact ⟨_, _, _, h1⟩
    have hrow5' := hidI (hrow5.wide hsd (Nat.le_refl _))
    clear hrow5 hbd hb5
    refine hK.out _ _ ?_ (fun hHeld => ?_)
    · try dsimp only
      exact ⟨x0, x1, x2, y0, y1, y2⟩
    clear hK
    try simp only [Act.put, lyA, lyB, lyC]
    refine tk 6 6 ?_
    refine wpAnyH_done (by kernel_rfl) ?_ _
    refine hnorm _ _ ?_
    clear hnorm hpan
    repeat clear hHeld
    try simp only [Exit.then]
    have hst5 := hidI (hst.out.below hbr5.out)
    have hs5 := hbr5.out.size
    clear x0 x1 x2 y0 y1 y2
    go_wp2_with (at_builtin; go_must (refine wpList_pushW_at rfl _ _ rfl w1.heap.size (.slice ua nu ucp) us za zm zc rfl rfl (by exact hst5.out.gr.1) (by have := hnu.out; omega) (by omega) ?_))
    intro v' w6 ho6 hg6 hl6
    have hst6 := hidI (hst.out.push hlo1 hbr5.out hrow5'.out hg6 hl6 ho6)
    rw [← hstep.out] at hst6
    have hb6 : Below w1.heap.size w5 w6 := ((Below.refl w1.heap.size w5).alloc (by omega) _).grown hg6 (by simp; omega) (fun k hk => (World.ownsRow.lt hst5.out.gr.1 k hk).1)
    have hbz := hidI (hb.out.trans ((hbr5.out.mono hlo1).trans hb6))
    clear ho6 hg6 hl6 hb6
    go_wp2
    go_roundg (N - (i + 1))
    case rel => exact ⟨i + 1, _, by have := hi.out; omega, by go_num, hst6, hbz⟩
    case measure => have := hi.out; omega
  · obtain rfl : i = N := by omega
    have hki : ¬ (i : Int) < (i : Int) := by omega
    have hfull : X.take i = X := List.take_of_length_le (by have := hN.out; omega)
    rw [hfull, ← hFe.out] at hst
    have hFl : F.length ≤ 120 := by rw [hFe.out, List.length_map]; have := hN.out; omega
    have hfin : LwWords w F (.returned (.slice ua nu ucp)) wr := ⟨_, us, rfl, (hst.out.gr.done (by omega)).wide hb1.size (Nat.le_refl _), hbw.out⟩
    replace hfin := hidI hfin
    replace hi := hidI hi
    replace hfull := hidI hfull
    replace hnu := hidI hnu
    replace hst := hidI hst
    go_wp2
    go_ret
    exact hfin.out
set_option maxRecDepth 100000 in
set_option maxHeartbeats 6400000 in
theorem progBasis (w : World) (r s : Int) (v : Value) (es : List Ed) (h : ReadE w.heap.size w v es) (hl : es.length ≤ 10000000) :
 Calls Tryz.prog 18 #[.agg #[.int .i64 r, .int .i64 s, v]] w (LwWords w (baL r s es)) := by
 obtain ⟨a, cap, rfl, hnc⟩ := h.form
 obtain ⟨n, hn⟩ := exq es.length
 rw [← hn] at hl hnc ⊢
 rw [← hn] at h
 obtain ⟨w1, hw1⟩ := exq (w.alloc (.cells #[.int .i64 r, .int .i64 s, .slice a n cap] 26))
 have hb1 : Below w.heap.size w w1 := by rw [hw1]; exact (Below.refl _ _).alloc (Nat.le_refl _) _
 have hs1 : w.heap.size < w1.heap.size := by rw [hw1]; simp
 obtain ⟨g0, g1, g2⟩ := box3 hw1
 have hco := progIsSub w1 r s (.slice a n cap) es ((h.below hb1).mono hb1.size) (by omega)
 obtain ⟨B, hB⟩ := exq (isCo r s es)
 obtain ⟨F, hF⟩ := exq (baL r s es)
 obtain ⟨X, hX⟩ := exq (exE r s es)
 have hXl : X.length ≤ 120 := by rw [hX]; exact exE_length r s es
 have hno : B = false → F = [] := fun q => by rw [hF]; unfold baL; rw [if_neg (by rw [← hB, q]; decide)]
 have hyes : B = true → F = X.map (loL r s es) ∧ isFo r s es = true ∧ ∀ e ∈ X, e ∈ es := fun q => by
  have hf := (co_parts (hB ▸ q : isCo r s es = true)).1
  refine ⟨?_, hf, fun e he => ?_⟩
  · rw [hF, hX]; unfold baL; rw [if_pos (by rw [← hB, q])]
  · rw [hX, exE_mem hf] at he; exact he.1
 have hext := fun (W : World) (hW : Below w.heap.size w W) => progExtra W r s (.slice a n cap) es ((h.below hW).mono hW.size) (by omega)
 have htree := fun (W : World) (hW : Below w.heap.size w W) => treeIn_any W r s (.slice a n cap) es ((h.below hW).mono hW.size) (by omega)
 rw [← hX] at hext
 rw [← hB] at hco
 rw [← hF]
 replace hext := hidI hext
 replace htree := hidI htree
 replace hno := hidI hno
 replace hyes := hidI hyes
 replace hF := hidI hF
 replace hX := hidI hX
 replace hB := hidI hB
 replace hn := hidI hn
 replace h := hidI h
 go_enter Tryz.func18, Tryz.ntmps18
 go_upto_region 1 with fail
 rw [← hw1]
 replace hw1 := hidI hw1
 go_wp2_with fail
 refine hco.mono ?_
 rintro e w2 ⟨rfl, hb2⟩
 clear hco
 replace g0 := below_cell g0 hb2 hs1
 replace g1 := below_cell g1 hb2 hs1
 replace g2 := below_cell g2 hb2 hs1
 have hs2 := hb2.size
 have hb12 := hidI (hb1.trans (hb2.mono hb1.size))
 clear hb2
 cases B with
 | false =>
  have hfin : LwWords w F (.returned (.slice none 0 0)) w2 := by
   rw [hno.out rfl]
   exact ⟨_, [], rfl, ((GrW.none w2 w2.heap.size).done (by simp)).wide hb12.out.size (Nat.le_refl _), hb12.out⟩
  replace hfin := hidI hfin
  replace hB := hidI hB
  clear hb1
  go_wp2
  go_ret
  exact hfin.out
 | true =>
 obtain ⟨hFe, hfo, hsubX⟩ := hyes.out rfl
 replace hB := hidI hB
 have hct := htree.out w2 hb12.out
 have hlim := fo_lim hfo
 replace hFe := hidI hFe
 go_wp2_with fail
 refine hct.mono ?_
 rintro e w3 (⟨hf, vF, rfl, hread, hb3⟩ | ⟨hf, rfl, hb3⟩)
 case inr => rw [hfo] at hf; cases hf
 clear hct
 replace g0 := below_cell g0 hb3 (by omega)
 replace g1 := below_cell g1 hb3 (by omega)
 replace g2 := below_cell g2 hb3 (by omega)
 have hs3 := hb3.size
 have hb13 := hidI (hb12.out.trans (hb3.mono hb12.out.size))
 have hgood := foundA_good hfo (u := 0) (by omega)
 have hloL : ∀ e ∈ X, loL r s es e = mulL (wdA (foundA r es 0) e.1 ++ [e.2.1]) (invL (wdA (foundA r es 0) e.2.2)) := fun e he => by
  unfold loL; rw [if_pos ⟨hfo, hsubX e he⟩, path_wd hfo, path_wd hfo]
 have hXin : ∀ e ∈ X, -9223372036854775808 ≤ e.2.1 ∧ e.2.1 ≤ 9223372036854775807 := fun e he => by
  have := gr_mem8 (fo_gr hfo).1 (hsubX e he)
  omega
 obtain ⟨S, hS⟩ := exq (foundA r es 0)
 rw [← hS] at hgood hread hloL
 have hSl : S.length ≤ 40 := by have := hgood.length; omega
 obtain ⟨aF, cF, hvF, _⟩ := hread.form
 obtain ⟨mF, hmF⟩ := exq ((S.map (·.1)).length)
 rw [← hmF] at hvF
 subst hvF
 replace hread := hidI hread
 replace hgood := hidI hgood
 replace hloL := hidI hloL
 replace hXin := hidI hXin
 replace hsubX := hidI hsubX
 replace hfo := hidI hfo
 replace hf := hidI hf
 replace hS := hidI hS
 replace hmF := hidI hmF
 replace hlim := hidI hlim
 clear hb3
 have hcx := hext.out w3 hb13.out
 go_wp2_with fail
 refine hcx.mono ?_
 rintro e w4 ⟨xa, xc, rfl, hrow4, hb4⟩
 clear hcx
 have hs4 := hb4.size
 obtain ⟨N, hN⟩ := exq X.length
 rw [← hN] at hrow4 hXl ⊢
 have hrd4 : ReadE w4.heap.size w4 (.slice xa N xc) X := by have := hrow4.read; rw [hN] at this ⊢; exact this
 have hbw4 := hidI (hb13.out.trans (hb4.mono hb13.out.size))
 have hread4 := hidI ((hread.out.below hb4).mono hb4.size)
 have hst4 : GrW w4 w4.heap.size (.slice none 0 0) [] [] := GrW.none w4 w4.heap.size
 replace hst4 := hidI hst4
 replace hrd4 := hidI hrd4
 replace hrow4 := hidI hrow4
 replace hN := hidI hN
 have hb44 := hidI (Below.refl w4.heap.size w4)
 clear hb4 g0 g1 g2
 go_wp2
 go_loopg [5, 7, 19] N (fun g u x k wr => ∃ (i : Nat) (us : List Value), i + g = N ∧ k = .int .i64 i ∧ Hid (GrW wr w4.heap.size u us ((X.take i).map (loL r s es))) ∧ Hid (Below w4.heap.size w4 wr))
 case atStart => exact ⟨0, [], by omega, rfl, by rw [List.take_zero]; exact hst4, hb44⟩
 case round =>
  clear hst4 hb44
  obtain ⟨i, us, hi, rfl, hst, hb⟩ := hrel
  have hbw := hidI (hbw4.out.trans (hb.out.mono hbw4.out.size))
  have hsr := hb.out.size
  obtain ⟨ua, ucp, rfl⟩ := OwnsW.form hst.out.1
  have hul := hst.out.2.1
  obtain ⟨nu, hnu⟩ := exq us.length
  rw [List.length_map, List.length_take] at hul
  have hnu2 : nu ≤ 120 := by have := hN.out; omega
  rw [← hnu] at hst ⊢
  replace hul := hidI hul
  by_cases hlt : i < N
  · have hki : (i : Int) < (N : Int) := by omega
    have hil : i < X.length := by have := hN.out; omega
    obtain ⟨bx, ox, hxa, hbx, c0, c1, c2⟩ := ReadE.at3 (hrd4.out.below hb.out) i hil
    subst hxa
    have hstep := map_take_loL (f := loL r s es) hil
    have hmem : X.getD i e0 ∈ X := by rw [getE_in hil]; exact List.getElem_mem hil
    have hlo := hloL.out _ hmem
    have hxi := hXin.out _ hmem
    obtain ⟨f, l, t, hE⟩ : ∃ f l t, X.getD i e0 = (f, l, t) := ⟨_, _, _, rfl⟩
    rw [hE] at c0 c1 c2 hstep hlo hxi
    simp only at c0 c1 c2 hlo hxi
    obtain ⟨wn, hwn⟩ := exq (wr.alloc (.cells #[.int .i64 f, .int .i64 l, .int .i64 t] 72))
    have hbn : Below wr.heap.size wr wn := by rw [hwn]; exact (Below.refl _ _).alloc (Nat.le_refl _) _
    obtain ⟨x0, x1, x2⟩ := box3 hwn
    have hsn : wr.heap.size < wn.heap.size := by rw [hwn]; simp
    have hcl := loop_any wn s.toNat (.slice aF mF cF) S (f, l, t) ((hread4.out.below (hb.out.trans (hbn.mono hb.out.size))).mono (by omega)) hgood.out hSl hxi
    simp only at hcl
    rw [← hlo] at hcl
    obtain ⟨Z, hZ⟩ := exq (loL r s es (f, l, t))
    rw [← hZ] at hcl hstep
    replace hlo := hidI hlo
    replace hE := hidI hE
    replace hZ := hidI hZ
    replace hstep := hidI hstep
    replace hi := hidI hi
    replace hnu := hidI hnu
    replace hxi := hidI hxi
    replace hmem := hidI hmem
    go_upto_region 8 with fail
    rw [← hwn]
    replace hwn := hidI hwn
    clear c0 c1 c2
    go_wp2_with fail
    refine hcl.mono ?_
    rintro e w5 ⟨zv, rfl, hrow5, hb5⟩
    clear hcl
    have hbr5 := hidI (hbn.trans (hb5.mono hbn.size))
    obtain ⟨za, zm, zc, rfl⟩ : ∃ a m c, zv = Value.slice a m c := by
     obtain ⟨_, ⟨h1, _⟩ | ⟨g, off, cap, cur, h1, _⟩⟩ := hrow5 <;> exact ⟨_, _, _, h1⟩
    have hrow5' := hidI (hrow5.wide hbn.size (Nat.le_refl _))
    have hst5 := hidI (hst.out.below hbr5.out)
    have hs5 := hbr5.out.size
    clear hrow5 hbn hb5 x0 x1 x2
    go_wp2_with (at_builtin; go_must (refine wpList_pushW_at rfl _ _ rfl w4.heap.size (.slice ua nu ucp) us za zm zc rfl rfl (by exact hst5.out.1) (by have := hnu.out; omega) (by omega) ?_))
    intro v' w6 ho6 hg6 hl6
    have hst6 := hidI (hst.out.push hsr hbr5.out hrow5'.out hg6 hl6 ho6)
    rw [← hstep.out] at hst6
    have hb6 : Below w4.heap.size w5 w6 := ((Below.refl w4.heap.size w5).alloc (by omega) _).grown hg6 (by simp; omega) (fun k hk => (World.ownsRow.lt hst5.out.1 k hk).1)
    have hbz := hidI (hb.out.trans ((hbr5.out.mono hsr).trans hb6))
    clear ho6 hg6 hl6 hb6
    go_wp2
    go_roundg (N - (i + 1))
    case rel => exact ⟨i + 1, _, by have := hi.out; omega, by go_num, hst6, hbz⟩
    case measure => have := hi.out; omega
  · obtain rfl : i = N := by omega
    have hki : ¬ (i : Int) < (i : Int) := by omega
    have hfull : X.take i = X := List.take_of_length_le (by have := hN.out; omega)
    rw [hfull, ← hFe.out] at hst
    have hFl : F.length ≤ 120 := by rw [hFe.out, List.length_map]; have := hN.out; omega
    have hfin : LwWords w F (.returned (.slice ua nu ucp)) wr := ⟨_, us, rfl, (hst.out.done (by omega)).wide hbw4.out.size (Nat.le_refl _), hbw.out⟩
    replace hfin := hidI hfin
    replace hi := hidI hi
    replace hfull := hidI hfull
    replace hnu := hidI hnu
    replace hst := hidI hst
    go_wp2
    go_ret
    exact hfin.out
end Go.Proofs.YtpjlamnjiilgbaaGreat
