import Derived.Deep.Cut
import Derived.Deep.LoopGhost
import Derived.Deep.RegionHeld3
import Derived.Test.YtgnomlcjikfdhaaGreatJ35Me
import Derived.Test.YtgnomlcjikfdhaaGreatJ20Me
import Derived.Test.YtgnomlcjikfdhaaGreatJ3Me
import Derived.Test.YtgnomlcjikfdhaaGreatJ11Me
namespace Go.Proofs.YtgnomlcjikfdhaaGreat
open Go.RowKit
set_option linter.unusedVariables false
set_option linter.unusedSimpArgs false
def dF (r s : Int) (es : List Ed) (zs : List Int) : Bool := dL r s es && gI r s es 0 (bK zs) && decide (jS r s es 0 (bK zs) = 0)
def jQ (r s : Int) (es : List Ed) (zss : List (List Int)) : Bool := zss.all (dF r s es) && dL r s es
set_option maxRecDepth 100000 in
set_option maxHeartbeats 3200000 in
theorem BI (w : World) (r s : Int) (v : Value) (es : List Ed) (vz : Value) (zs : List Int) (h : ay w.heap.size w v es) (hz : bD w.heap.size w vz zs) (hs : -9223372036854775808 ≤ s ∧ s ≤ 9223372036854775807) (hin : bi zs) (hl : es.length ≤ 10000000) (hlz : zs.length ≤ 10000000) :
 Calls Tryz.prog 24 #[.agg #[.int .i64 r, .int .i64 s, v], vz] w (dU w (dF r s es zs)) := by
 obtain ⟨a, cap, rfl, hnc⟩ := h.form; have hz' := hz; obtain ⟨_, az, capz, rfl, _, _⟩ := hz'; have hin2 := iQ hin; have hrl := jf zs; obtain ⟨n, hn⟩ := ag es.length; obtain ⟨w1, hw1⟩ := ag (w.alloc (.cells #[.int .i64 r, .int .i64 s, .slice a n cap] 26)); have hb1 : Below w.heap.size w w1 := by rw [hw1]; exact (Below.refl _ _).alloc (nl _) _
 have hs1 : w.heap.size < w1.heap.size := by rw [hw1]; simp
 obtain ⟨g0, g1, g2⟩ := bT hw1; obtain ⟨wd, hwd⟩ := ag w1.drew; have hbd : Below w1.heap.size w1 wd := by rw [hwd]; exact bf (Below.refl _ _) 1
 have hsd := hbd.size; replace g0 := af g0 hbd hs1; replace g1 := af g1 hbd hs1; replace g2 := af g2 hbd hs1; have hb1d := hb1.trans (hbd.mono hb1.size); have hsw : w.heap.size < wd.heap.size := by omega
 have hred := DX wd (.slice az zs.length capz) zs ((hz.below hb1d).mono hb1d.size) (by omega)
 obtain ⟨F, hF⟩ := ag (dF r s es zs); obtain ⟨RL, hRL⟩ := ag (bK zs); rw [← hRL] at hred hin2 hrl; obtain ⟨V, hV⟩ := ag (jS r s es 0 RL); obtain ⟨KW, hKK⟩ := ag (gI r s es 0 RL); obtain ⟨B, hB⟩ := ag (dL r s es); have hFe : F = (B && KW && decide (V = 0)) := by rw [hF, hB, hKK, hV, hRL]; rfl
 rw [← hF]; rw [← hn] at hl hnc ⊢; rw [← hn] at h; obtain ⟨m, hm⟩ := ag zs.length; rw [← hm] at hred hlz hrl ⊢; have hsub := fun (W : World) (hW : Below w.heap.size w W) => jX W r s (.slice a n cap) es ((h.below hW).mono hW.size) hs (by omega)
 rw [← hB] at hsub; replace hsub := ae hsub; replace hFe := ae hFe; replace hF := ae hF; replace hB := ae hB; replace hKK := ae hKK; replace hV := ae hV; replace hRL := ae hRL; replace hn := ae hn; replace hm := ae hm; replace h := ae h; replace hz := ae hz; replace hin := ae hin; replace hin2 := ae hin2; replace hw1 := ae hw1; replace hwd := ae hwd; replace hb1d := ae hb1d; clear hb1 hbd; go_enter Tryz.func24, Tryz.ntmps24
 go_wp2; rw [← hw1.out]; refine bV (fun _ _ d _ _ h => by cases d <;> exact h) (fun Q' hnorm hpan => ?_)
 refine wp_region_held_drew (S := (fun W0 => W0.cell? ⟨w.heap.size, 0, none⟩ = some (.int .i64 r) ∧ W0.cell? ⟨w.heap.size, 1, none⟩ = some (.int .i64 s) ∧ W0.cell? ⟨w.heap.size, 2, none⟩ = some (.slice a n cap))) (by kernel_rfl) ?_ (fun hHeld => ?_)
 · try dsimp only
   first | ((repeat' apply And.intro) <;> assumption) | (rw [← hwd.out]; ((repeat' apply And.intro) <;> assumption))
 rw [← hwd.out] at hHeld ⊢; refine tk 0 8 ?_; refine tk 1 9 ?_; refine rd 2 (fun K hK => ?_)
 rw [if_pos (by rfl)]
 go_simp; refine hred.mono ?_; rintro e w2 ⟨v1, rfl, hr1, hb2⟩; clear hred; replace g0 := af g0 hb2 hsw; replace g1 := af g1 hb2 hsw; replace g2 := af g2 hb2 hsw; have hs2 : w.heap.size < w2.heap.size := by have := hb2.size; omega
 have hb12 := ae (hb1d.out.trans (hb2.mono hb1d.out.size)); have hcc := AV w2 r s (.slice a n cap) es 0 v1 RL ((h.out.below hb12.out).mono hb12.out.size) hr1.read hs (by omega) hin2.out (by have := hn.out; omega) (by have := hm.out; omega)
 rw [← hV.out, ← hKK.out] at hcc; replace hr1 := ae hr1; refine hK.out _ _ ?_ (fun hHeld => ?_)
 · try dsimp only
   first | ((repeat' apply And.intro) <;> assumption) | (rw [← hwd.out]; ((repeat' apply And.intro) <;> assumption))
 clear hK; try simp only [Act.put, aJ, aH, aI]
 refine rd 3 (fun K hK => ?_)
 rw [if_pos (by rfl)]
 go_simp; refine hcc.mono ?_; rintro e w3 ⟨rfl, hb3⟩; clear hcc; replace g0 := af g0 hb3 hs2; replace g1 := af g1 hb3 hs2; replace g2 := af g2 hb3 hs2; have hs3 : w.heap.size < w3.heap.size := by have := hb3.size; omega
 have hb13 := ae (hb12.out.trans (hb3.mono hb12.out.size)); refine hK.out _ _ ?_ (fun hHeld => ?_)
 · try dsimp only
   first | ((repeat' apply And.intro) <;> assumption) | (rw [← hwd.out]; ((repeat' apply And.intro) <;> assumption))
 clear hK; try simp only [Act.put, aJ, aH, aI]
 refine tk 4 7 ?_; refine tk 5 12 ?_; refine tk 6 13 ?_; refine tk 7 5 ?_; refine tk 8 6 ?_; refine wpAnyH_done (by kernel_rfl) ?_ _
 refine hnorm _ _ ?_; clear hnorm hpan; repeat clear hHeld
 try simp only [Exit.then]
 have hcc := hsub.out w3 hb13.out; go_wp2_with fail; refine hcc.mono ?_; rintro e w4 ⟨rfl, hb4⟩; clear hcc; have hbz := ae (hb13.out.trans (hb4.mono hb13.out.size)); replace hb4 := ae hb4
 cases B with
 | false =>
  have hfin : Hid (F = false) := ae hFe.out; replace hFe := ae hFe; replace hB := ae hB; go_wp2; go_ret; exact ⟨au hfin.out.symm, hbz.out⟩
 | true =>
  cases KW with
  | false =>
   have hfin : Hid (F = false) := ae hFe.out; replace hFe := ae hFe; replace hB := ae hB; replace hKK := ae hKK; go_wp2; go_ret; exact ⟨au hfin.out.symm, hbz.out⟩
  | true =>
   replace hB := ae hB; replace hKK := ae hKK; by_cases e : V = 0
   · have hfin : Hid (F = true) := ae (by rw [hFe.out, decide_eq_true e]; rfl)
     have he : (V == 0) = true := by rw [beq_iff_eq]; exact e
     replace e := ae e; replace hFe := ae hFe; go_wp2; go_ret; exact ⟨au hfin.out.symm, hbz.out⟩
   · have hfin : Hid (F = false) := ae (by rw [hFe.out, decide_eq_false e]; rfl)
     have he : (V == 0) = false := by rw [beq_eq_false_iff_ne]; exact e
     replace e := ae e; replace hFe := ae hFe; go_wp2; go_ret; exact ⟨au hfin.out.symm, hbz.out⟩
theorem Bj {r s : Int} {es : List Ed} {zss : List (List Int)} {k : Nat} (hk : k < zss.length) (h : dF r s es (zss.getD k []) = false) : jQ r s es zss = false := by
 unfold jQ; rw [Bool.and_eq_false_iff]; left
 rw [List.all_eq_false]; refine ⟨zss.getD k [], ?_, by simpa using h⟩
 rw [gD, gE hk]; exact List.getElem_mem hk
theorem zo {r s : Int} {es : List Ed} {zss : List (List Int)} (h : ∀ j, j < zss.length → dF r s es (zss.getD j []) = true) : jQ r s es zss = dL r s es := by
 unfold jQ; rw [List.all_eq_true.2 (fun z hz => by
  obtain ⟨j, hj, e⟩ := List.getElem_of_mem hz; have := h j hj; rw [gD, gE hj] at this; rw [← e]; exact this), Bool.true_and]
set_option maxRecDepth 100000 in
set_option maxHeartbeats 3200000 in
theorem vJ (w : World) (r s : Int) (v : Value) (es : List Ed) (vz : Value) (zss : List (List Int)) (h : ay w.heap.size w v es) (hz : dJ w.heap.size w vz zss) (hs : -9223372036854775808 ≤ s ∧ s ≤ 9223372036854775807) (hin : ∀ zs ∈ zss, bi zs) (hl : es.length ≤ 10000000) (hlz : dP (zss.map List.length) ≤ 10000000) :
 Calls Tryz.prog 39 #[.agg #[.int .i64 r, .int .i64 s, v], vz] w (dU w (jQ r s es zss)) := by
 obtain ⟨a, cap, rfl, hnc⟩ := h.form; have hz' := hz; obtain ⟨hlen, az, capz, rfl, _, _⟩ := hz'; obtain ⟨n, hn⟩ := ag es.length; rw [← hn] at hl hnc ⊢; rw [← hn] at h; obtain ⟨m, hm⟩ := ag zss.length; rw [← hm] at hlen ⊢; rw [← hm] at hz; obtain ⟨w1, hw1⟩ := ag (w.alloc (.cells #[.int .i64 r, .int .i64 s, .slice a n cap] 26)); have hb1 : Below w.heap.size w w1 := by rw [hw1]; exact (Below.refl _ _).alloc (nl _) _
 have hs1 : w.heap.size < w1.heap.size := by rw [hw1]; simp
 obtain ⟨g0, g1, g2⟩ := bT hw1; have hzl : ∀ i, i < m → (zss.getD i []).length ≤ 10000000 := fun i hi => by
  have h1 := pV (zss.map List.length) i (by rw [List.length_map]; omega)
  rw [kw] at h1; omega
 have hcont := fun (W : World) (hW : Below w.heap.size w W) (u : Value) (zs : List Int) (hu : bD w.heap.size w u zs) (hi : bi zs) (hl2 : zs.length ≤ 10000000) => BI W r s (.slice a n cap) es u zs ((h.below hW).mono hW.size) ((hu.below hW).mono hW.size) hs hi (by omega) hl2
 have hsub := fun (W : World) (hW : Below w.heap.size w W) => jX W r s (.slice a n cap) es ((h.below hW).mono hW.size) hs (by omega)
 obtain ⟨F, hF⟩ := ag (jQ r s es zss); rw [← hF]; replace hF := ae hF; replace hn := ae hn; replace hm := ae hm; replace h := ae h; replace hz := ae hz; replace hin := ae hin; replace hw1 := ae hw1; replace hcont := ae hcont; replace hsub := ae hsub; replace hzl := ae hzl; have hk0 : Hid (Below w.heap.size w w1) := ae hb1; go_enter Tryz.func39, Tryz.ntmps39
 go_upto_region 1 with fail
 rw [← hw1.out]; go_wp2
 go_loopg [5] m (fun g x wr => ∃ k : Nat, k + g = m ∧ x = .int .i64 k ∧ Hid (∀ j, j < k → dF r s es (zss.getD j []) = true) ∧ Hid (Below w1.heap.size w1 wr))
 case atStart => exact ⟨0, by omega, rfl, ae (fun j h => by omega), ae (Below.refl _ _)⟩
 case round =>
  obtain ⟨k, hk, rfl, heq, hb⟩ := hrel; have p0 := af g0 hb.out hs1; have p1 := af g1 hb.out hs1; have p2 := af g2 hb.out hs1; have hbw := ae (hb1.trans (hb.out.mono hb1.size)); by_cases hlt : k < m
  · have hki : (k : Int) < (m : Int) := by omega
    obtain ⟨b, off, u, rfl, hbl, c, r0⟩ := hz.out.at_ k (by have := hm.out; omega)
    have cw := af c hbw.out hbl; obtain ⟨zs, hzs⟩ := ag (zss.getD k []); obtain ⟨wd, hwd⟩ := ag wr.drew; have hbd : Below wr.heap.size wr wd := by rw [hwd]; exact bf (Below.refl _ _) 1
    have hbwd := ae (hbw.out.trans (hbd.mono hbw.out.size)); have hwr := hbw.out.size; have hwr1 := hb.out.size; have x0 := af p0 hbd (by omega)
    have x1 := af p1 hbd (by omega)
    have x2 := af p2 hbd (by omega)
    have x3 := af cw hbd (by omega)
    have hcl := hcont.out wd hbwd.out u (zss.getD k []) r0 (hin.out _ (by
     have hkl : k < zss.length := by have := hm.out; omega
     rw [gD, gE hkl]; exact List.getElem_mem hkl)) (hzl.out k hlt)
    obtain ⟨I, hI⟩ := ag (dF r s es (zss.getD k [])); rw [← hI] at hcl; replace hI := ae hI; replace hk := ae hk; replace hwd := ae hwd; clear c r0; go_wp2; refine bV (fun _ _ d _ _ h => by cases d <;> exact h) (fun Q' hnorm hpan => ?_)
    refine wp_region_held_drew (S := (fun W0 => W0.cell? ⟨w.heap.size, 0, none⟩ = some (.int .i64 r) ∧ W0.cell? ⟨w.heap.size, 1, none⟩ = some (.int .i64 s) ∧ W0.cell? ⟨w.heap.size, 2, none⟩ = some (.slice a n cap) ∧ W0.cell? ⟨b, off + k, none⟩ = some u)) (by kernel_rfl) ?_ (fun hHeld => ?_)
    · try dsimp only
      first | ((repeat' apply And.intro) <;> assumption) | (rw [← hwd.out]; ((repeat' apply And.intro) <;> assumption))
    rw [← hwd.out] at hHeld ⊢; refine tk 0 12 ?_; refine tk 1 13 ?_; refine tk 2 14 ?_; refine tk 3 15 ?_; refine tk 4 16 ?_; refine rd 5 (fun K hK => ?_)
    rw [if_pos (by rfl)]
    go_simp; refine hcl.mono ?_; rintro e w3 ⟨rfl, hb3⟩; clear hcl; have hsd := hbd.size; replace x0 := af x0 hb3 (by omega)
    replace x1 := af x1 hb3 (by omega)
    replace x2 := af x2 hb3 (by omega)
    replace x3 := af x3 hb3 (by omega)
    refine hK.out _ _ ?_ (fun hHeld => ?_)
    · try dsimp only
      first | ((repeat' apply And.intro) <;> assumption) | (rw [← hwd.out]; ((repeat' apply And.intro) <;> assumption))
    clear hK; try simp only [Act.put, aJ, aH, aI]
    refine tk 6 18 ?_; refine wpAnyH_done (by kernel_rfl) ?_ _
    refine hnorm _ _ ?_; clear hnorm hpan; repeat clear hHeld
    try simp only [Exit.then]
    have hb13 := ae (hb.out.trans (hbd.trans (hb3.mono hbd.size) |>.mono hb.out.size)); have hbz := ae (hbwd.out.trans (hb3.mono hbwd.out.size)); clear hbd hb3
    cases I with
    | true =>
     have hnx : Hid (∀ j, j < k + 1 → dF r s es (zss.getD j []) = true) := ae fun j hj => by
      by_cases e : j = k
      · subst e; exact hI.out.symm
      · exact heq.out j (by omega)
     replace hI := ae hI; go_wp2; go_roundg (m - (k + 1))
     case rel => exact ⟨k + 1, by have := hk.out; omega, by go_num, hnx, hb13⟩
     case measure => have := hk.out; omega
    | false =>
     have hfin : Hid (F = false) := ae (by rw [hF.out]; exact Bj (by have := hm.out; omega) hI.out.symm)
     replace hI := ae hI; go_wp2; go_ret; exact ⟨au hfin.out.symm, hbz.out⟩
  · obtain rfl : k = m := by omega
    have hki : ¬ (k : Int) < (k : Int) := by omega
    have hfin : F = dL r s es := by rw [hF.out]; exact zo (fun j hj => heq.out j (by have := hm.out; omega))
    have hcc := hsub.out wr hbw.out; rw [← hfin] at hcc; replace hfin := ae hfin; replace hk := ae hk; go_wp2_with fail; refine hcc.mono ?_; rintro e w3 ⟨rfl, hb3⟩; clear hcc; have hbz := ae (hbw.out.trans (hb3.mono hbw.out.size)); go_wp2; go_ret; exact ⟨au rfl, hbz.out⟩
end Go.Proofs.YtgnomlcjikfdhaaGreat
namespace Go.Proofs.YtgnomlcjikfdhaaGreat
open Go.RowKit
set_option linter.unusedVariables false
set_option linter.unusedSimpArgs false
def Rd (es : List Ed) : Int → List Int → Int → Prop
 | v, [], x => v = x
 | v, l :: w, x => ∃ y, fC es v l y ∧ Rd es y w x
theorem lM {es : List Ed} {a b : List Int} : ∀ {v x : Int}, Rd es v (a ++ b) x ↔ ∃ y, Rd es v a y ∧ Rd es y b x := by
 induction a with
 | nil => intro v x; exact ⟨fun h => ⟨v, rfl, h⟩, fun ⟨y, h1, h2⟩ => by have h1' : v = y := h1; rw [h1']; exact h2⟩
 | cons l a ih =>
  intro v x; constructor
  · rintro ⟨z, h1, h2⟩
    obtain ⟨y, h3, h4⟩ := ih.1 h2; exact ⟨y, ⟨z, h1, h3⟩, h4⟩
  · rintro ⟨y, ⟨z, h1, h3⟩, h4⟩
    exact ⟨z, h1, ih.2 ⟨y, h3, h4⟩⟩
theorem xW {es : List Ed} {v l x : Int} : Rd es v [l] x ↔ fC es v l x :=
 ⟨fun ⟨y, h1, h2⟩ => by have h2' : y = x := h2; rw [← h2']; exact h1, fun h => ⟨x, h, rfl⟩⟩
theorem zf {es : List Ed} {v l y : Int} (h : fC es v l y) : fC es y (-l) v := by
 rw [Jr] at h ⊢; rw [Int.neg_neg]; exact h.symm
theorem DL {r s : Int} {es : List Ed} (hg : aK r s es = true) : ∀ {w : List Int} {v x : Int}, Rd es v w x → Rd es x (invL w) v := by
 intro w
 induction w with
 | nil => intro v x h; exact (show v = x from h).symm
 | cons l w ih =>
  rintro v x ⟨y, h1, h2⟩; have hv := (jL hg h1).2.2; have hl := aZ hg; have hn : ng l = -l := pJ (by omega) (by omega)
  have e : invL (l :: w) = invL w ++ [-l] := by unfold invL; rw [List.map_cons, List.reverse_cons, hn]
  rw [e]; exact lM.2 ⟨y, ih h2, xW.2 (zf h1)⟩
section
variable {r s : Int} {es : List Ed}
theorem Me (hg : aK r s es = true) (hf : gq es es.length = true) : ∀ {w st : List Int} {v y x : Int}, Rd es v st.reverse y → Rd es y w x → Rd es v (stk st w).reverse x := by
 intro w
 induction w with
 | nil => intro st v y x h1 h2; have h2' : y = x := h2; rw [← h2']; exact h1
 | cons c w ih =>
  rintro st v y x h1 ⟨z, h2, h3⟩; rw [lh]; refine ih ?_ h3; have hno : Rd es v (c :: st).reverse z := by
   rw [List.reverse_cons]; exact lM.2 ⟨y, h1, xW.2 h2⟩
  cases st with
  | nil => exact hno
  | cons b t =>
   cases hi : inv b c with
   | false => rw [iW hi]; exact hno
   | true =>
    rw [iK hi]; obtain ⟨hb, _⟩ := AL hi; rw [List.reverse_cons] at h1; obtain ⟨u, h4, h5⟩ := lM.1 h1; rw [xW, hb] at h5; have h6 := zf h5; rw [Int.neg_neg] at h6; rw [qm hg hf h2 h6]; exact h4
theorem Am (hg : aK r s es = true) (hf : gq es es.length = true) {w : List Int} (hin : bi w) {v x : Int} (h : Rd es v w x) : Rd es v (bK w) x := by
 rw [gW hin]; exact Me hg hf (st := []) (y := v) rfl h
theorem NK (hg : aK r s es = true) (hf : gq es es.length = true) : ∀ {w : List Int}, bi w → ∀ {v x : Int}, wk es v w = (x, w.length) ↔ Rd es v w x := by
 intro w
 induction w with
 | nil =>
  intro _ v x; show (v, 0) = (x, 0) ↔ v = x
  simp
 | cons l w ih =>
  intro hin v x; have hl := hin.head; rw [wk]
  rcases oZ hg hf (v := v) (l := l) hl with h | h
  · have h0 : ¬ aV es v l < 0 := by have := h.2; omega
    rw [if_neg h0]; constructor
    · intro e
      have e1 := congrArg Prod.fst e; have e2 := congrArg Prod.snd e; simp only [List.length_cons] at e1 e2; refine ⟨aV es v l, h.1, (ih hin.tail).1 (Prod.ext e1 ?_)⟩; show (wk es (aV es v l) w).2 = w.length
      omega
    · rintro ⟨y, h1, h2⟩
      have hy := qm hg hf h1 h.1; subst hy; have := (ih hin.tail).2 h2; rw [this]; rfl
  · have h0 : aV es v l < 0 := by have := h.1; omega
    rw [if_pos h0]; constructor
    · intro e
      have e2 := congrArg Prod.snd e; simp at e2
    · rintro ⟨y, h1, _⟩
      exact absurd h1 (h.2 y)
theorem oq (h : dL r s es = true) {zs : List Int} (hin : bi zs) : dF r s es zs = true ↔ Rd es 0 (bK zs) 0 := by
 have hl := qE h; obtain ⟨hg, hf⟩ := jb (jW h).1; have hok : kD r s es 0 = true := by
  unfold kD oI; rw [(jW h).1, Bool.true_and, decide_eq_true_eq]; omega
 rw [← NK hg hf (iQ hin)]; have hw : gI r s es 0 (bK zs) = decide ((wk es 0 (bK zs)).2 = (bK zs).length) := by unfold gI; rw [hok, Bool.true_and]
 unfold dF jS; rw [h, Bool.true_and, Bool.and_eq_true, decide_eq_true_eq]; constructor
 · rintro ⟨h1, h2⟩
   rw [if_pos h1] at h2; rw [hw, decide_eq_true_eq] at h1; exact Prod.ext h2 h1
 · intro e
   have h1 : gI r s es 0 (bK zs) = true := by rw [hw, decide_eq_true_eq, e]
   refine ⟨h1, ?_⟩; rw [if_pos h1, e]
theorem yz (h : dL r s es = true) : aK r s es = true ∧ gq es es.length = true := jb (jW h).1
theorem Na (h : dL r s es = true) {zs : List Int} (hin : bi zs) (hz : dF r s es zs = true) : dF r s es (invL zs) = true := by
 obtain ⟨hg, hf⟩ := yz h; rw [oq h bi.invL, ← Ih hin]; exact DL hg ((oq h hin).1 hz)
theorem J7 (hg : aK r s es = true) : ∀ {w : List Int} {v x : Int}, Rd es v w x → ∀ l ∈ w, l ≠ 0 ∧ -3 ≤ l ∧ l ≤ 3 := by
 have hl := aZ hg; intro w
 induction w with
 | nil => intro v x _ l hl; cases hl
 | cons c w ih =>
  rintro v x ⟨y, h1, h2⟩ l hm; have hv := (jL hg h1).2.2
  rcases List.mem_cons.1 hm with e | hm
  · rw [e]; omega
  · exact ih h2 l hm
theorem JO {p : List Int} : ∀ {s : List Int}, iM s → (∀ x ∈ p, x ≠ 0 ∧ -3 ≤ x ∧ x ≤ 3) → stk s (invL p ++ p) = s := by
 induction p with
 | nil => intro s _ _; rfl
 | cons x t ih =>
  intro s hs hp; have hx := hp x List.mem_cons_self; have hn : ng x = -x := pJ (by omega) (by omega)
  have e : invL (x :: t) ++ (x :: t) = invL t ++ ([ng x] ++ ([x] ++ t)) := by simp [invL]
  have hi : inv (ng x) x = true := by unfold inv; rw [decide_eq_true_eq, hn]; omega
  rw [e, iO, iO, iO]; show stk (push (push (stk s (invL t)) (ng x)) x) t = s
  rw [uA hs.stk hi, ← iO]; exact ih hs (fun y hy => hp y (List.mem_cons_of_mem _ hy))
theorem Nk (h : dL r s es = true) {l w : List Int} (hl : bi l) (hw : bi w) (hz : dF r s es l = true) : dF r s es (ry l w) = dF r s es w := by
 obtain ⟨hg, hf⟩ := yz h; have h1 := (oq h hl).1 hz; rw [Bool.eq_iff_iff, oq h (yJ hl hw), oq h hw]; unfold ry; rw [pF (hl.append hw)]; constructor
 · intro h2
   have h3 := DL hg h1; have h4 := Am hg hf (bi.invL.append (iQ (hl.append hw))) (lM.2 ⟨0, h3, h2⟩); have e : bK (invL (bK l) ++ bK (l ++ w)) = bK w := by
    rw [← Hr hl hw, EY bi.invL ((iQ hl).append hw), gW (bi.invL.append ((iQ hl).append hw)), gW hw, ← List.append_assoc, iO, JO iM.nil (J7 hg h1)]
   rw [e] at h4; exact h4
 · intro h2
   have h3 := Am hg hf ((iQ hl).append (iQ hw)) (lM.2 ⟨0, h1, h2⟩); rw [iG hl hw] at h3; exact h3
end
end Go.Proofs.YtgnomlcjikfdhaaGreat
namespace Go.Proofs.YtgnomlcjikfdhaaGreat
open Go.RowKit
set_option linter.unusedVariables false
set_option linter.unusedSimpArgs false
abbrev Wa := List Int × Int
def nJ (w : List Int) (l : Int) : Bool := match w.getLast? with | none => true | some x => decide (l ≠ -x)
def dX (es : List Ed) (p : Wa) (l : Int) : List Wa := if 0 ≤ aV es p.2 l ∧ nJ p.1 l = true then [(p.1 ++ [l], aV es p.2 l)] else []
def kids (es : List Ed) (ls : List Int) (p : Wa) : List Wa := ls.flatMap (dX es p)
def dC (es : List Ed) (ls : List Int) (v : Int) : Nat → List Wa
 | 0 => [([], v)]
 | n + 1 => (dC es ls v n).flatMap (kids es ls)
def qA (es : List Ed) (ls : List Int) (v : Int) : Nat → List Wa
 | 0 => dC es ls v 0
 | n + 1 => qA es ls v n ++ dC es ls v (n + 1)
theorem Js {es : List Ed} {p q : Wa} {l : Int} (h : q ∈ dX es p l) : q.1.length = p.1.length + 1 := by
 unfold dX at h; split at h
 · rw [List.mem_singleton] at h; rw [h]; simp
 · cases h
theorem JB {es : List Ed} {ls : List Int} {p q : Wa} (h : q ∈ kids es ls p) : q.1.length = p.1.length + 1 := by
 unfold kids at h; rw [List.mem_flatMap] at h; obtain ⟨l, _, h⟩ := h; exact Js h
theorem rD {es : List Ed} {ls : List Int} {v : Int} : ∀ (n : Nat) (p : Wa), p ∈ dC es ls v n → p.1.length = n := by
 intro n
 induction n with
 | zero => intro p h; rw [dC, List.mem_singleton] at h; rw [h]; rfl
 | succ n ih =>
  intro p h; rw [dC, List.mem_flatMap] at h; obtain ⟨q, hq, h⟩ := h; rw [JB h, ih q hq]
def kz (es : List Ed) (ls : List Int) (v : Int) (most : Nat) : List (List Int) := ((qA es ls v most).filter fun p => p.2 == v).map (·.1)
end Go.Proofs.YtgnomlcjikfdhaaGreat
