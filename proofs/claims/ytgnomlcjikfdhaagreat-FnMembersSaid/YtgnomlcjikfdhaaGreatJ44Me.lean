import Derived.Deep.LoopGhost
import Derived.Deep.Cut
import Derived.Maps.AppendAt
import Derived.ProofKit
import Derived.Test.YtgnomlcjikfdhaaGreatJ34Me
import Derived.Test.YtgnomlcjikfdhaaGreatJ33Me
import Derived.Test.YtgnomlcjikfdhaaGreatJ5Me
import Derived.Test.YtgnomlcjikfdhaaGreatJ8Me
import Derived.Test.YtgnomlcjikfdhaaGreatJ9Me
import Derived.Test.YtgnomlcjikfdhaaGreatJ13Me
import Derived.Test.YtgnomlcjikfdhaaGreatJ0Me
import Derived.Test.YtgnomlcjikfdhaaGreatJ3Me
namespace Go.Proofs.YtgnomlcjikfdhaaGreat
open Go.RowKit
set_option linter.unusedVariables false
set_option linter.unusedSimpArgs false
set_option maxHeartbeats 3200000 in
theorem yX (w : World) (r s : Int) (v : Value) (es : List Ed) (h : ay w.heap.size w v es) (hl : es.length ≤ 10000000) :
 Calls Tryz.prog 25 #[.agg #[.int .i64 r, .int .i64 s, v]] w (dU w (dL r s es)) := by
 obtain ⟨a, cap, rfl, hnc⟩ := h.form; obtain ⟨n, hn⟩ := ag es.length; rw [← hn] at hl hnc ⊢; rw [← hn] at h; obtain ⟨w1, hw1⟩ := ag (w.alloc (.cells #[.int .i64 r, .int .i64 s, .slice a n cap] 26)); have hb1 : Below w.heap.size w w1 := by rw [hw1]; exact (Below.refl _ _).alloc (nl _) _
 have hs1 : w.heap.size < w1.heap.size := by rw [hw1]; simp
 obtain ⟨g0, g1, g2⟩ := bT hw1; have hco := JA w1 r s (.slice a n cap) es (by have := (h.below hb1).mono hb1.size; exact this) (by omega)
 obtain ⟨B, hB⟩ := ag (dL r s es); rw [← hB] at hco ⊢; replace hB := ae hB; replace hn := ae hn; replace h := ae h; replace hw1 := ae hw1; go_enter Tryz.func25, Tryz.ntmps25
 go_wp2_with fail; rw [← hw1.out]; refine hco.mono ?_; rintro e w2 ⟨rfl, hb2⟩; clear hco g0 g1 g2; have hbq := hb1.trans (hb2.mono hb1.size); go_wp2; go_ret; exact ⟨au rfl, hbq⟩
set_option maxRecDepth 100000 in
set_option maxHeartbeats 3200000 in
theorem zh (w : World) (r : Int) : Calls Tryz.prog 32 #[.int .i64 r] w (aS w (dY r) (fJ r) [] (gG r)) := by
 obtain ⟨w1, hw1⟩ := ag (w.alloc (.cells #[.int .i64 0, .int .i64 0, .slice none 0 0] 26)); have hb1 : Below w.heap.size w w1 := by rw [hw1]; exact (Below.refl _ _).alloc (nl _) _
 have hs1 : w1.heap.size = w.heap.size + 1 := by rw [hw1]; simp
 have hk := heap_alloc_new w (.cells #[.int .i64 0, .int .i64 0, .slice none 0 0] 26); rw [← hw1] at hk; have hcall : Calls Tryz.prog 71 #[.int .i64 r] w1 (aS w1 (dY r) (fJ r) [] (gG r)) := Bq w1 r; obtain ⟨PR, hPR⟩ := ag (dY r); obtain ⟨PS, hPS⟩ := ag (fJ r); obtain ⟨B, hB⟩ := ag (gG r); obtain ⟨PE, hPE⟩ : ∃ B : List Ed, B = [] := ⟨_, rfl⟩; rw [← hPR, ← hPS, ← hB, ← hPE] at hcall ⊢; replace hPR := ae hPR
 replace hPS := ae hPS; replace hPE := ae hPE; replace hB := ae hB; replace hk := ae hk; replace hs1 := ae hs1; go_enter Tryz.func32, Tryz.ntmps32
 go_upto_region 1 with fail
 rw [← hw1]; replace hw1 := ae hw1; go_wp2_with fail; refine hcall.mono ?_; rintro e w2 ⟨b, cap2, rfl, hrow2, hb2⟩; clear hcall; have hs2 := hb2.size; obtain ⟨N, hN⟩ := ag PE.length; rw [← hN] at hrow2 ⊢; have hbw2 : Below w.heap.size w w2 := hb1.trans (hb2.mono hb1.size); have hR2 : w2.heap[w.heap.size]? = some (.cells #[.int .i64 0, .int .i64 0, .slice none 0 0] 26 (0, 0)) := by rw [hb2.block _ (by have := hs1.out; omega)]; exact hk.out
 obtain ⟨w3, hw3⟩ := ag w2; have hb3 : Below w2.heap.size w2 w3 := by rw [hw3]; exact Below.refl _ _
 have hs3 := hb3.size; have hR3 : w3.heap[w.heap.size]? = some (.cells #[.int .i64 0, .int .i64 0, .slice none 0 0] 26 (0, 0)) := by rw [hb3.block _ (by have := hs1.out; omega)]; exact hR2
 have hrow3 : aF 36 3 w3 w1.heap.size w2.heap.size (.slice b N cap2) N (aC PE) := hrow2.below hb3 (nl _); have hbw3 : Below w.heap.size w w3 := hbw2.trans (hb3.mono (by have := hbw2.size; omega))
 have hfin : aS w PR PS PE B (.returned (.tuple #[.agg #[.int .i64 PR, .int .i64 PS, .slice b N cap2], .bool B])) (((w3.setCell ⟨w.heap.size, 0, none⟩ (.int .i64 PR)).setCell ⟨w.heap.size, 1, none⟩ (.int .i64 PS)).setCell ⟨w.heap.size, 2, none⟩ (.slice b N cap2)) := by
  have hs := hs1.out; refine ⟨b, cap2, by rw [hN], ?_, aN hbw3 (by omega)⟩
  rw [← hN]; exact aF.wide (hrow3.set3_ (.inl (by omega))) (by omega) (by rw [aW]; omega)
 obtain ⟨y0, y1, y2⟩ := ah hR3; have f2 := fun j => frozen_of_row w3 w.heap.size j _ _ hR3
 simp at y0 y1 y2
 replace hfin := ae hfin; replace hR2 := ae hR2; replace hR3 := ae hR3; replace hrow2 := ae hrow2; replace hrow3 := ae hrow3; replace hN := ae hN; subst hw3; go_wp2
 (try simp only [Exit.inBlock, Exit.then])
 refine aO (x := .bool B) rfl rfl rfl (Go.Proofs.YtgnomlcjikfdhaaGreat.set3 hR3.out _ _ _) Tryz.underlying26 aB ?_; exact hfin.out
theorem EU {w : World} {base : Nat} {v : Value} {E : List Ed} (h : bF w base v E) : ∃ a c, v = .slice a E.length c := by
 obtain ⟨_, ⟨h1, h2⟩ | ⟨g, cap, cur, h1, _⟩⟩ := h
 · exact ⟨none, 0, by rw [h1, h2]⟩
 · exact ⟨_, _, h1⟩
theorem Fp {w w' : World} {base : Nat} {v : Value} {E : List Ed} (h : bF w base v E) (hb : ∀ k, v.ownBlock = some k → w'.heap[k]? = w.heap[k]?) : bF w' base v E := by
 obtain ⟨h1, h2 | ⟨g, cap, cur, rfl, hg, hh, hr⟩⟩ := h
 · exact ⟨h1, .inl h2⟩
 · exact ⟨h1, .inr ⟨g, cap, cur, rfl, hg, (hb g rfl).trans hh, hr⟩⟩
theorem xk {w0 : World} {ops : Array Oper} {rest : List Oper} {o : Oper} {a : Act} {Q : Exit → Act → World → Prop} (hgd : o.guard = none) (s x : Operand)
 (ho : o.op = .call { callee := .builtin .append, args := #[s, x], argTypes := #[24, 24] }) (base : Nat) (v : Value) (es : List Ed) (f l t : Int)
 (hs : a.eval s = v) (hx : a.eval x = .slice (some ⟨w0.heap.size, 0, none⟩) 1 1) (hown : bF w0 base v es) (hl : es.length ≤ 1000000000) (hbase : base ≤ w0.heap.size)
 (h : ∀ v' w', bF w' base v' (es ++ [(f, l, t)]) → (w0.alloc (.cells #[.int .i64 f, .int .i64 l, .int .i64 t] 36)).grownBy w' v.ownBlock → (v'.ownBlock = v.ownBlock ∨ v'.ownBlock = some (w0.heap.size + 1)) → wpList Tryz.prog ops Q rest (a.put o.dst v') w') :
 wpList Tryz.prog ops Q (o :: rest) a (w0.alloc (.cells #[.int .i64 f, .int .i64 l, .int .i64 t] 36)) := by
 obtain ⟨i0, hi, hz0, hz1, hz2⟩ := info_parts oN; refine wpList_append_own_at _ hgd s x 24 ho base 36 i0 _ 3 24 Tryz.underlying24 hi hz0 hz1 hz2 rfl (by decide) v es.length ((aC es).map iv) hs (World.ownsRow.alloc hown _) ⟨w0.heap.size, 0, none⟩ 1 1 [iv f, iv l, iv t] hx rfl ?_ ?_ ?_ ?_ ?_ ?_
 · intro j u hj
   have hk := heap_alloc_new w0 (.cells #[.int .i64 f, .int .i64 l, .int .i64 t] 36); rw [iy, Nat.zero_add]; have c := cell_of_heap hk j
   match j, hj with
   | 0, hj => simp at hj; subst hj; simp [iv]
   | 1, hj => simp at hj; subst hj; simp [iv]
   | 2, hj => simp at hj; subst hj; simp [iv]
 · intro u hu
   simp at hu
   rcases hu with rfl | rfl | rfl <;> rfl
 · unfold maxLen; omega
 · omega
 · simp; omega
 · intro v' w' ho' hg _ hw
   refine h v' w' (by unfold bF bG; rw [jo]; simpa [aC] using ho') hg (by simpa using hw)
def wH (w : World) (X base : Nat) (r sz : Int) (v : Value) (E : List Ed) : Prop :=
 w.heap[X]? = some (.cells #[.int .i64 r, .int .i64 sz, v] 26 (0, 0)) ∧ bF w base v E ∧ v.ownBlock ≠ some X
theorem wH.form {w : World} {X base : Nat} {r sz : Int} {v : Value} {E : List Ed} (h : wH w X base r sz v E) : ∃ a c, v = .slice a E.length c := by
 obtain ⟨_, ⟨_, ⟨h1, h2⟩ | ⟨g, cap, cur, h1, _⟩⟩, _⟩ := h
 · exact ⟨none, 0, by rw [h1, h2]⟩
 · exact ⟨_, _, h1⟩
theorem wH.mst {w : World} {X base : Nat} {r sz : Int} {v : Value} {E : List Ed} (h : wH w X base r sz v E) (hX : X < w.heap.size) (hb : base ≤ w.heap.size) (hl : E.length ≤ 4000000000000) : cO w X base r sz v E := by
 obtain ⟨h1, h2, h3⟩ := h; refine ⟨h1, ?_⟩; have h4 := bG.row h2 hl; obtain ⟨q0, q1, ⟨rfl, q3⟩ | ⟨g, off, cap, cur, rfl, q3, q4, q5, q6, ⟨rfl, q7⟩, q8⟩⟩ := h4
 · exact ⟨w.heap.size, w.heap.size, ⟨q0, q1, .inl ⟨rfl, q3⟩⟩, hb, nl _, .inr hX⟩
 · have hne : g ≠ X := fun e => h3 (by rw [← e]; rfl)
   exact ⟨g, g + 1, ⟨q0, q1, .inr ⟨g, 0, cap, cur, rfl, nl _, by omega, q5, q6, ⟨rfl, q7⟩, q8⟩⟩, q3, by omega, by omega⟩
set_option maxRecDepth 100000 in
set_option maxHeartbeats 6400000 in
theorem xg (w : World) (r : Int) : Calls Tryz.prog 34 #[.int .i64 r] w (aS w (dY r) (fJ r) (lQ r) (gG r)) := by
 obtain ⟨w1, hw1⟩ := ag (w.alloc (.cells #[.int .i64 0, .int .i64 0, .slice none 0 0] 26)); have hb1 : Below w.heap.size w w1 := by rw [hw1]; exact (Below.refl _ _).alloc (nl _) _
 have hs1 : w1.heap.size = w.heap.size + 1 := by rw [hw1]; simp
 have hk := heap_alloc_new w (.cells #[.int .i64 0, .int .i64 0, .slice none 0 0] 26); rw [← hw1] at hk; have hcall : Calls Tryz.prog 71 #[.int .i64 r] w1 (aS w1 (dY r) (fJ r) [] (gG r)) := Bq w1 r; have hn0 : 0 ≤ dY r ∧ dY r ≤ 3 := by unfold dY; split <;> omega
 obtain ⟨n, hnn⟩ : ∃ n : Nat, dY r = (n : Int) := ⟨(dY r).toNat, by omega⟩
 have hn3 : n ≤ 3 := by omega
 have hwhl : lQ r = jw n := by show jw (dY r).toNat = jw n; rw [hnn, Int.toNat_natCast]
 obtain ⟨PS, hPS⟩ := ag (fJ r); obtain ⟨B, hB⟩ := ag (gG r); rw [hnn, ← hPS, ← hB] at hcall; rw [hwhl, hnn, ← hPS, ← hB]; replace hnn := ae hnn; replace hwhl := ae hwhl; replace hn0 := ae hn0; replace hPS := ae hPS; replace hB := ae hB; replace hk := ae hk; replace hs1 := ae hs1; go_enter Tryz.func34, Tryz.ntmps34
 go_upto_region 1 with fail
 rw [← hw1]; replace hw1 := ae hw1; go_wp2_with fail; refine hcall.mono ?_; rintro e w2 ⟨b, cap2, rfl, hrow2, hb2⟩; clear hcall; have hs2 := hb2.size; have hbw2 : Below w.heap.size w w2 := hb1.trans (hb2.mono hb1.size); obtain ⟨w3, hw3⟩ := ag (w2.alloc (.cells #[.int .i64 (n : Int), .int .i64 PS, .slice b 0 cap2] 26)); have hb3 : Below w2.heap.size w2 w3 := by rw [hw3]; exact (Below.refl _ _).alloc (nl _) _
 obtain ⟨x0, x1, x2⟩ := bT hw3; have hX3 : w3.heap[w2.heap.size]? = some (.cells #[.int .i64 (n : Int), .int .i64 PS, .slice b 0 cap2] 26 (0, 0)) := by rw [hw3]; exact heap_alloc_new _ _
 have hs3 : w3.heap.size = w2.heap.size + 1 := by rw [hw3]; simp
 have hown3 : bF w3 w1.heap.size (.slice b 0 cap2) [] := bG.later hrow2.owns hb3 (nl _); obtain ⟨X, hX⟩ := ag w2.heap.size; rw [← hX] at hX3 x0 x1 x2; have hown2 := hrow2.owns; have hst0 : Hid (∃ v, wH w3 X w1.heap.size (n : Int) PS v (jw 0)) := ae ⟨_, hX3, hown3, fun e => by
  have h1 := (World.ownsRow.lt hown2 X e).2; omega⟩
 have hk0 : Hid (Below w1.heap.size w1 w3) := ae (hb2.trans (hb3.mono hs2)); have hXs : w1.heap.size ≤ X ∧ X < w3.heap.size := by omega
 replace hX3 := ae hX3; replace hown3 := ae hown3; replace hown2 := ae hown2; replace hrow2 := ae hrow2; replace hs3 := ae hs3; clear hb3; go_upto_region 2 with fail
 try simp only [List.length_nil]
 rw [← hw3, ← hX]; replace hw3 := ae hw3; replace hX := ae hX; go_wp2; clear x0 x1 x2
 go_loopg [6, 14] n (fun g x1 x2 wr => ∃ k : Nat, k + g = n ∧ x2 = .int .i64 k ∧ Hid (∃ v, wH wr X w1.heap.size (n : Int) PS v (jw k)) ∧ Hid (Below w1.heap.size w1 wr) ∧ X < wr.heap.size)
 case atStart => exact ⟨0, by omega, rfl, hst0, hk0, hXs.2⟩
 case round =>
  clear hst0 hk0; obtain ⟨k, hk9, rfl, hst, hkb, hXr⟩ := hrel; obtain ⟨v6, hP⟩ := hst.out; obtain ⟨av, cv, hv6⟩ := hP.form; rw [eP] at hv6; subst hv6; obtain ⟨y0, y1, y2⟩ := ah hP.1; simp at y0 y1 y2
  have hkbs := hkb.out.size; by_cases hlt : k < n
  · have hki : (k : Int) < (n : Int) := by omega
    have hP0 := hP; replace hP := ae hP; replace hk9 := ae hk9; clear hst; have e0_ := fun o : Obj => ((((Below.refl wr.heap.size wr).alloc (nl _) o).cell (p := (⟨X, 0, none⟩ : Addr)) hXr)).trans y0
    go_wp2_with (at_builtin; go_must (refine xk rfl _ _ rfl w1.heap.size (.slice av k cv) (jw k) 0 _ 0 rfl rfl hP0.2.1 (by rw [eP]; omega) (by omega) ?_))
    intro v8 w8 hown8 hg8 hloc8; obtain ⟨a8, c8, hv8⟩ := EU hown8; rw [List.length_append, eP, List.length_singleton] at hv8; subst hv8; have hbn : Below w1.heap.size wr w8 := ((Below.refl w1.heap.size wr).alloc (by omega) _).grown hg8 (by simp; omega) (fun q hq => (World.ownsRow.lt hP0.2.1 q hq).1)
    have hX8 : w8.heap[X]? = some (.cells #[.int .i64 (n : Int), .int .i64 PS, .slice av k cv] 26 (0, 0)) := by
     rw [hg8.block X (by simp; omega) (fun e => hP0.2.2 e.symm), ((Below.refl wr.heap.size wr).alloc (nl _) _).block X hXr]
     exact hP0.1
    have hw8 := hbn.size; obtain ⟨w9, hw9⟩ := ag (w8.setCell ⟨X, 2, none⟩ (.slice a8 (k + 1) c8)); have hX9 : w9.heap[X]? = some (.cells #[.int .i64 (n : Int), .int .i64 PS, .slice a8 (k + 1) c8] 26 (0, 0)) := by
     rw [hw9]; simpa using heap_setCell_same w8 X 2 _ _ (.slice a8 (k + 1) c8) hX8
    have hne : (Value.slice a8 (k + 1) c8).ownBlock ≠ some X := fun e => by
     rcases hloc8 with q | q
     · exact hP0.2.2 (q ▸ e)
     · rw [q] at e
       have : wr.heap.size + 1 = X := by simpa using e
       omega
    have hst9 : Hid (∃ v, wH w9 X w1.heap.size (n : Int) PS v (jw (k + 1))) := ae ⟨_, hX9, Fp hown8 (fun q hq => by rw [hw9]; exact Below.heap_setCell _ _ _ _ (fun e => hne (by rw [hq, e]))), hne⟩
    have hb9 : Hid (Below w1.heap.size w1 w9) := ae (by rw [hw9]; exact (hkb.out.trans hbn).setCell (p := ⟨X, 2, none⟩) (show w1.heap.size ≤ X by omega) _)
    have hs9 : X < w9.heap.size := by rw [hw9]; simp [World.setCell]; omega
    have z2 := cell_of_heap hX8 2; have fz := fun j => frozen_of_row w8 X j _ _ hX8
    simp at z2
    replace hX9 := ae hX9; replace hX8 := ae hX8; replace hP0 := ae hP0; clear hown8 hg8 hloc8 hbn; go_wp2; rw [← hw9]; replace hw9 := ae hw9; go_roundg (n - (k + 1))
    case rel => exact ⟨k + 1, by have := hk9.out; omega, by go_num, hst9, hb9, hs9⟩
    case measure => have := hk9.out; omega
  · obtain rfl : k = n := by omega
    have hki : ¬ (k : Int) < (k : Int) := by omega
    have hwr : Below w.heap.size w wr := hb1.trans (hkb.out.mono (by have := hs1.out; omega))
    have hm := hP.mst hXr (by omega) (by rw [eP]; omega)
    have hm2 : cO wr X w1.heap.size (k : Int) PS (.slice av (jw k).length cv) (jw k) := by rw [eP]; exact hm
    have hfin := iI (w := w) (R := w.heap.size) (b := B) (nl _) (show w.heap.size < w1.heap.size by have := hs1.out; omega) hwr hm2
    clear hm hm2; rw [eP] at hfin; have hRr : wr.heap[w.heap.size]? = some (.cells #[.int .i64 0, .int .i64 0, .slice none 0 0] 26 (0, 0)) := by rw [hkb.out.block _ (by have := hs1.out; omega)]; exact hk.out
    obtain ⟨t0, t1, t2⟩ := ah hRr; have ft := fun j => frozen_of_row wr w.heap.size j _ _ hRr
    simp at t0 t1 t2
    replace hfin := ae hfin; replace hP := ae hP; replace hRr := ae hRr; replace hk9 := ae hk9; clear hst hwr; go_wp2
    (try simp only [Exit.inBlock, Exit.then])
    refine aO (x := .bool B) rfl rfl rfl (Go.Proofs.YtgnomlcjikfdhaaGreat.set3 hRr.out _ _ _) Tryz.underlying26 aB ?_; exact hfin.out
set_option maxRecDepth 100000 in
set_option maxHeartbeats 3200000 in
theorem rZ (w : World) (r s : Int) (v : Value) (es : List Ed) (h : ay w.heap.size w v es) (hl : es.length ≤ 10000000) :
 Calls Tryz.prog 41 #[.agg #[.int .i64 r, .int .i64 s, v]] w (dU w (ql r s es)) := by
 obtain ⟨a, cap, rfl, hnc⟩ := h.form; obtain ⟨n, hn⟩ := ag es.length; rw [← hn] at hl hnc ⊢; rw [← hn] at h; obtain ⟨w1, hw1⟩ := ag (w.alloc (.cells #[.int .i64 r, .int .i64 s, .slice a n cap] 26)); have hb1 : Below w.heap.size w w1 := by rw [hw1]; exact (Below.refl _ _).alloc (nl _) _
 have hs1 : w.heap.size < w1.heap.size := by rw [hw1]; simp
 obtain ⟨g0, g1, g2⟩ := bT hw1; have hcall := zh w1 r; obtain ⟨PR, hPR⟩ := ag (dY r); obtain ⟨PS, hPS⟩ := ag (fJ r); obtain ⟨PE, hPE⟩ : ∃ B : List Ed, B = [] := ⟨_, rfl⟩; obtain ⟨B, hB⟩ := ag (gG r); obtain ⟨F, hF⟩ := ag (ql r s es); rw [← hPR, ← hPS, ← hB, ← hPE] at hcall; rw [← hF]; have hno : B = false → F = false := fun q => by
  rw [hF, yw]; rw [hB] at q; unfold gG at q; rw [q]; rfl
 have hyes : B = true → F = kP r s es PR PS PE := fun q => by
  rw [hF, yw]; rw [hB] at q; unfold gG at q; rw [q, hPR, hPS, hPE]
  rw [decide_eq_true_eq] at q; unfold dY fJ kP; rw [if_pos q, if_pos q]; simp
 have hPl : PE.length ≤ 1000000000 := by rw [hPE]; simp
 replace hno := ae hno; replace hyes := ae hyes; replace hF := ae hF; replace hPR := ae hPR; replace hPS := ae hPS; replace hPE := ae hPE; replace hB := ae hB; replace hn := ae hn; replace h := ae h; replace hw1 := ae hw1; go_enter Tryz.func41, Tryz.ntmps41
 go_wp2_with fail; rw [← hw1.out]; refine hcall.mono ?_; rintro e w2 ⟨b, cap2, rfl, hrow2, hb2⟩; clear hcall; have hs2 := hb2.size; replace g0 := af g0 hb2 hs1; replace g1 := af g1 hb2 hs1; replace g2 := af g2 hb2 hs1; obtain ⟨N, hN⟩ := ag PE.length; rw [← hN] at hrow2 ⊢; have hbw2 : Below w.heap.size w w2 := hb1.trans (hb2.mono hb1.size); obtain ⟨w3, hw3⟩ := ag (w2.alloc (.cells #[.int .i64 PR, .int .i64 PS, .slice b N cap2] 26))
 have hb3 : Below w2.heap.size w2 w3 := by rw [hw3]; exact (Below.refl _ _).alloc (nl _) _
 obtain ⟨x0, x1, x2⟩ := bT hw3; have hs3 := hb3.size; replace g0 := af g0 hb3 (by omega)
 replace g1 := af g1 hb3 (by omega)
 replace g2 := af g2 hb3 (by omega)
 have hrow3 : aF 36 3 w3 w1.heap.size w2.heap.size (.slice b N cap2) N (aC PE) := hrow2.below hb3 (nl _); have hbw3 : Below w.heap.size w w3 := hbw2.trans (hb3.mono (by have := hbw2.size; omega))
 have heq := yC w3 r s PR PS (.slice a n cap) (.slice b N cap2) es PE (by have := (h.out.below hbw3).mono hbw3.size; exact this) (by have := hrow3.read.mono hs3; rw [hN] at this ⊢; exact this) (by have := hn.out; omega) hPl
 replace hrow2 := ae hrow2; replace hrow3 := ae hrow3; replace hN := ae hN; replace hbw3 := ae hbw3; go_upto_region 2 with fail
 rw [← hw3]; replace hw3 := ae hw3
 cases B with
 | false =>
  have hfin := ae (hno.out rfl); replace hB := ae hB; clear heq; go_wp2; go_ret; exact ⟨au hfin.out.symm, hbw3.out⟩
 | true =>
  rw [← hyes.out rfl] at heq; replace hB := ae hB; go_wp2_with fail; refine heq.mono ?_; rintro e w4 ⟨rfl, hb4⟩; clear heq; have hbq := hbw3.out.trans (hb4.mono hbw3.out.size); go_wp2; go_ret; exact ⟨au rfl, hbq⟩
set_option maxRecDepth 100000 in
set_option maxHeartbeats 3200000 in
theorem qh (w : World) (r s : Int) (v : Value) (es : List Ed) (h : ay w.heap.size w v es) (hl : es.length ≤ 10000000) :
 Calls Tryz.prog 42 #[.agg #[.int .i64 r, .int .i64 s, v]] w (dU w (oW r s es)) := by
 obtain ⟨a, cap, rfl, hnc⟩ := h.form; obtain ⟨n, hn⟩ := ag es.length; rw [← hn] at hl hnc ⊢; rw [← hn] at h; obtain ⟨w1, hw1⟩ := ag (w.alloc (.cells #[.int .i64 r, .int .i64 s, .slice a n cap] 26)); have hb1 : Below w.heap.size w w1 := by rw [hw1]; exact (Below.refl _ _).alloc (nl _) _
 have hs1 : w.heap.size < w1.heap.size := by rw [hw1]; simp
 obtain ⟨g0, g1, g2⟩ := bT hw1; have hcall := xg w1 r; obtain ⟨PR, hPR⟩ := ag (dY r); obtain ⟨PS, hPS⟩ := ag (fJ r); obtain ⟨PE, hPE⟩ : ∃ B : List Ed, B = lQ r := ⟨_, rfl⟩; obtain ⟨B, hB⟩ := ag (gG r); obtain ⟨F, hF⟩ := ag (oW r s es); rw [← hPR, ← hPS, ← hB, ← hPE] at hcall; rw [← hF]; have hno : B = false → F = false := fun q => by
  rw [hF, BD]; rw [hB] at q; unfold gG at q; rw [q]; rfl
 have hyes : B = true → F = kP r s es PR PS PE := fun q => by
  rw [hF, BD]; rw [hB] at q; unfold gG at q; rw [q, hPR, hPS, hPE]
  rw [decide_eq_true_eq] at q; unfold dY fJ kP; rw [if_pos q, if_pos q]; simp
 have hPl : PE.length ≤ 1000000000 := by rw [hPE]; have := rf r; omega
 replace hno := ae hno; replace hyes := ae hyes; replace hF := ae hF; replace hPR := ae hPR; replace hPS := ae hPS; replace hPE := ae hPE; replace hB := ae hB; replace hn := ae hn; replace h := ae h; replace hw1 := ae hw1; go_enter Tryz.func42, Tryz.ntmps42
 go_wp2_with fail; rw [← hw1.out]; refine hcall.mono ?_; rintro e w2 ⟨b, cap2, rfl, hrow2, hb2⟩; clear hcall; have hs2 := hb2.size; replace g0 := af g0 hb2 hs1; replace g1 := af g1 hb2 hs1; replace g2 := af g2 hb2 hs1; obtain ⟨N, hN⟩ := ag PE.length; rw [← hN] at hrow2 ⊢; have hbw2 : Below w.heap.size w w2 := hb1.trans (hb2.mono hb1.size); obtain ⟨w3, hw3⟩ := ag (w2.alloc (.cells #[.int .i64 PR, .int .i64 PS, .slice b N cap2] 26))
 have hb3 : Below w2.heap.size w2 w3 := by rw [hw3]; exact (Below.refl _ _).alloc (nl _) _
 obtain ⟨x0, x1, x2⟩ := bT hw3; have hs3 := hb3.size; replace g0 := af g0 hb3 (by omega)
 replace g1 := af g1 hb3 (by omega)
 replace g2 := af g2 hb3 (by omega)
 have hrow3 : aF 36 3 w3 w1.heap.size w2.heap.size (.slice b N cap2) N (aC PE) := hrow2.below hb3 (nl _); have hbw3 : Below w.heap.size w w3 := hbw2.trans (hb3.mono (by have := hbw2.size; omega))
 have heq := yC w3 r s PR PS (.slice a n cap) (.slice b N cap2) es PE (by have := (h.out.below hbw3).mono hbw3.size; exact this) (by have := hrow3.read.mono hs3; rw [hN] at this ⊢; exact this) (by have := hn.out; omega) hPl
 replace hrow2 := ae hrow2; replace hrow3 := ae hrow3; replace hN := ae hN; replace hbw3 := ae hbw3; go_upto_region 2 with fail
 rw [← hw3]; replace hw3 := ae hw3
 cases B with
 | false =>
  have hfin := ae (hno.out rfl); replace hB := ae hB; clear heq; go_wp2; go_ret; exact ⟨au hfin.out.symm, hbw3.out⟩
 | true =>
  rw [← hyes.out rfl] at heq; replace hB := ae hB; go_wp2_with fail; refine heq.mono ?_; rintro e w4 ⟨rfl, hb4⟩; clear heq; have hbq := hbw3.out.trans (hb4.mono hbw3.out.size); go_wp2; go_ret; exact ⟨au rfl, hbq⟩
end Go.Proofs.YtgnomlcjikfdhaaGreat
namespace Go.Proofs.YtgnomlcjikfdhaaGreat
open Go.RowKit
set_option linter.unusedVariables false
def Chain (w : World) (lo hi : Nat) : List Int → Value → Prop
 | [], v => v = .pointer none
 | x :: s, v => ∃ (b : Nat) (p : Value), v = .pointer (some ⟨b, 0, none⟩) ∧ lo ≤ b ∧ b < hi ∧ w.heap[b]? = some (.cells #[.int .i64 x, .int .i64 ((s.length : Int) + 1), p] 174 (0, 0)) ∧ Chain w lo hi s p
theorem Chain.mono {w : World} {lo hi hi' : Nat} (hh : hi ≤ hi') : ∀ {s : List Int} {v : Value}, Chain w lo hi s v → Chain w lo hi' s v := by
 intro s
 induction s with
 | nil => intro v h; exact h
 | cons x s ih =>
  intro v h; obtain ⟨b, p, hv, h1, h2, h3, h4⟩ := h; exact ⟨b, p, hv, h1, by omega, h3, ih h4⟩
theorem Chain.below {w w' : World} {lo hi B : Nat} (hb : Below B w w') (hB : hi ≤ B) : ∀ {s : List Int} {v : Value}, Chain w lo hi s v → Chain w' lo hi s v := by
 intro s
 induction s with
 | nil => intro v h; exact h
 | cons x s ih =>
  intro v h; obtain ⟨b, p, hv, h1, h2, h3, h4⟩ := h; exact ⟨b, p, hv, h1, h2, by rw [hb.block b (by omega)]; exact h3, ih h4⟩
def tV (w : World) (lo : Nat) (s : List Int) (e : Ending) (w' : World) : Prop := ∃ v, e = .returned v ∧ Chain w' lo w'.heap.size s v ∧ Below w.heap.size w w'
theorem yt {w : World} {lo : Nat} {s : List Int} {x : Int} {v : Value} (hlo : lo ≤ w.heap.size) (h : Chain w lo w.heap.size s v) :
 tV w lo (x :: s) (.returned (.pointer (some ⟨w.heap.size, 0, none⟩))) (w.alloc (.cells #[.int .i64 x, .int .i64 ((s.length : Int) + 1), v] 174)) := by
 have hb := (Below.refl w.heap.size w).alloc (nl _) (.cells #[.int .i64 x, .int .i64 ((s.length : Int) + 1), v] 174); refine ⟨_, rfl, ⟨w.heap.size, v, rfl, hlo, by simp, heap_alloc_new w _, ?_⟩, hb⟩
 exact (h.below hb (nl _)).mono (by simp)
set_option maxHeartbeats 800000 in
theorem yx (w : World) (lo : Nat) (v : Value) (s : List Int) (x : Int) (hlo : lo ≤ w.heap.size) (h : Chain w lo w.heap.size s v) (hs : bi s) (hx : -9223372036854775808 ≤ x ∧ x ≤ 9223372036854775807) (hl : s.length ≤ 1000000000) :
 Calls Tryz.prog 153 #[v, .int .i64 x] w (tV w lo (push s x)) := by
 cases s with
 | nil =>
  have hnil : v = .pointer none := h; subst hnil; have hr : tV w lo (push [] x) (.returned (.pointer (some ⟨w.heap.size, 0, none⟩))) (w.alloc (.cells #[.int .i64 x, .int .i64 1, .pointer none] 174)) := yt (s := []) hlo h; replace h := ae h; replace hr := ae hr; go_enter Tryz.func153, Tryz.ntmps153
  go_wp2; go_ret; exact hr.out
 | cons y t =>
  have hch := h; obtain ⟨b, p, rfl, h1, h2, h3, h4⟩ := h; have c0 : w.cell? ⟨b, 0, none⟩ = some (.int .i64 y) := by simp [World.cell?, h3]
  have c1 : w.cell? ⟨b, 1, none⟩ = some (.int .i64 ((t.length : Int) + 1)) := by simp [World.cell?, h3]
  have c2 : w.cell? ⟨b, 2, none⟩ = some p := by simp [World.cell?, h3]
  have hy := hs.head; obtain ⟨n, hn⟩ := ag t.length; rw [List.length_cons, ← hn] at hl; rw [← hn] at c1
  cases hi : inv y x with
  | true =>
   have hr : tV w lo (push (y :: t) x) (.returned p) w := ⟨p, rfl, by rw [iK hi]; exact h4, Below.refl _ _⟩
   have hcall := Hw w y x hy hx true hi; replace hr := ae hr; replace hi := ae hi; replace hn := ae hn; clear h3 h4 hch hs; go_enter Tryz.func153, Tryz.ntmps153
   go_wp2_with fail; refine hcall.mono ?_; rintro e w' ⟨rfl, rfl⟩; go_wp2; go_ret; exact hr.out
  | false =>
   have hr : tV w lo (push (y :: t) x) (.returned (.pointer (some ⟨w.heap.size, 0, none⟩))) (w.alloc (.cells #[.int .i64 x, .int .i64 ((n : Int) + 1 + 1), .pointer (some ⟨b, 0, none⟩)] 174)) := by
    rw [iW hi]; have := yt (x := x) hlo hch; rw [List.length_cons, ← hn] at this; exact this
   have hcall := Hw w y x hy hx false hi; replace hr := ae hr; replace hi := ae hi; replace hn := ae hn; clear h3 h4 hch hs; go_enter Tryz.func153, Tryz.ntmps153
   go_wp2_with fail; refine hcall.mono ?_; rintro e w' ⟨rfl, rfl⟩; go_wp2; go_ret; exact hr.out
end Go.Proofs.YtgnomlcjikfdhaaGreat
