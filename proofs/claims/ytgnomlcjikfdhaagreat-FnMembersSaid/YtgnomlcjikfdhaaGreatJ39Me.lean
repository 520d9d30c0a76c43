import Derived.Deep.Cut
import Derived.Deep.CutRange
import Derived.Test.YtgnomlcjikfdhaaGreatJ38Me
import Derived.Test.YtgnomlcjikfdhaaGreatJ20Me
namespace Go.Proofs.YtgnomlcjikfdhaaGreat
open Go.RowKit Go.Maps
set_option linter.unusedVariables false
set_option linter.unusedSimpArgs false
theorem Ii {w W : World} (hb : Below (w.heap.size + 1) (w.alloc (.cells #[] 33)) W) : iq W w.heap.size W.heap.size (.slice (some ⟨w.heap.size, 0, none⟩) 0 0) [] [] := by
 have h := bU.lit w; have h2 : bU W w.heap.size (.slice (some ⟨w.heap.size, 0, none⟩) 0 0) [] := bU.other h fun k hk => hb.block k (by have h3 : w.heap.size = k := (by simpa [Value.ownBlock] using hk); omega)
 exact bU.rowSS h2 (nl _) (nl _) rfl (by simp) (fun i b hi => by simp at hi) (fun i hi => by simp at hi) (fun i j b hi => by simp at hi)
theorem BZ {wd : List Int} {l : Int} (h : wd ≠ []) : nJ wd l = (l != -(wd.getD (wd.length - 1) 0)) := by
 rw [Cj h]; by_cases e : l = -(wd.getD (wd.length - 1) 0)
 · rw [decide_eq_false (by simpa using e)]; rw [← e]; simp
 · rw [decide_eq_true e]; exact (bne_iff_ne.2 e).symm
theorem BN {α : Type} {P : List α} {f : α → Bool} {k : Nat} (hk : k < P.length) : (P.take (k + 1)).filter f = (P.take k).filter f ++ (if f P[k] = true then [P[k]] else []) := by
 rw [List.take_succ_eq_append_getElem hk, List.filter_append]; congr 1
 by_cases h : f P[k] = true
 · rw [if_pos h, List.filter_cons_of_pos h]; rfl
 · rw [if_neg h, List.filter_cons_of_neg h]; rfl
theorem bU.at_ {w : World} {lo : Nat} {v : Value} {us : List Value} (h : bU w lo v us) (k : Nat) (hk : k < us.length) :
 ∃ g cap, v = .slice (some ⟨g, 0, none⟩) us.length cap ∧ g < w.heap.size ∧ w.cell? ⟨g, k, none⟩ = some us[k] := by
 have hlt := World.ownsRow.lt h; obtain ⟨hlen, ⟨rfl, hn⟩ | ⟨g, cap, cur, rfl, hg, hr⟩⟩ := id h
 · omega
 · have hc := World.ownsRow.cells (g := g) h rfl
   have c1 := hc k us[k] (gE hk); rw [iy, Nat.zero_add] at c1; exact ⟨g, cap, rfl, (hlt g rfl).2, c1⟩
theorem bD.at2' {B : Nat} {w : World} {v : Value} {a : Option Addr} {n cap : Nat} {zs : List Int} (h : bD B w v zs) (hv : v = .slice a n cap) (i : Nat) (hi : i < zs.length) : ∃ b off, a = some ⟨b, off, none⟩ ∧ b < B ∧ w.cell? ⟨b, off + i, none⟩ = some (.int .i64 (zs.getD i 0)) := by
 subst hv; exact h.at2 i hi
theorem E8 {r s : Int} {es : List Ed} {ls : List Int} {x : Int} {n : Nat} {p : Wa} (hfo : bJ r s es = true) (hx : 0 ≤ x ∧ x < s) (hp : p ∈ dC es ls x n) : jS r s es x p.1 = p.2 ∧ gI r s es x p.1 = true := by
 have hok : kD r s es x = true := by unfold kD oI; rw [hfo, decide_eq_true hx]; rfl
 have h := yU hok (JU n p hp); exact ⟨h.2.1, h.1⟩
set_option maxRecDepth 100000 in
set_option maxHeartbeats 25600000 in
theorem zy (w : World) (r s : Int) (v : Value) (es : List Ed) (x m : Int) (h : ay w.heap.size w v es) (hs : -9223372036854775808 ≤ s ∧ s ≤ 9223372036854775807) (hl : es.length ≤ 10000000) :
 Calls Tryz.prog 27 #[.agg #[.int .i64 r, .int .i64 s, v], .int .i64 x, .int .i64 m] w (yG w (kY r s es x m)) := by
 obtain ⟨a, cap, rfl, hnc⟩ := h.form; obtain ⟨n, hn⟩ := ag es.length; rw [← hn] at hl hnc ⊢; rw [← hn] at h; obtain ⟨w1, hw1⟩ := ag (w.alloc (.cells #[.int .i64 r, .int .i64 s, .slice a n cap] 26)); have hb1 : Below w.heap.size w w1 := by rw [hw1]; exact (Below.refl _ _).alloc (nl _) _
 have hs1 : w1.heap.size = w.heap.size + 1 := by rw [hw1]; simp
 obtain ⟨g0, g1, g2⟩ := bT hw1; obtain ⟨w2, hw2⟩ := ag (w1.alloc (.cells #[] 33)); have hb2 : Below w1.heap.size w1 w2 := by rw [hw2]; exact (Below.refl _ _).alloc (nl _) _
 have hs2 : w2.heap.size = w1.heap.size + 1 := by rw [hw2]; simp
 have hlt1 : w.heap.size < w1.heap.size := by omega
 have hcf := sD w2 r s (.slice a n cap) es (((h.below hb1).mono hb1.size).below hb2 |>.mono hb2.size) hs (by omega)
 obtain ⟨B, hB⟩ := ag (bJ r s es); rw [← hB] at hcf; obtain ⟨F, hF⟩ := ag (kY r s es x m); rw [← hF]; have hno : F = [] → ∀ W : World, Below w2.heap.size w2 W → yG w F (.returned (.slice (some ⟨w1.heap.size, 0, none⟩) 0 0)) W := fun h W hW => by
  rw [h]; have hW1 := hb2.trans (hW.mono (by omega))
  exact ⟨_, [], rfl, (Ii (w := w1) (W := W) (by rw [← hw2, ← hs2]; exact hW)).wide (by omega) (nl _), hb1.trans (hW1.mono (by omega))⟩
 have hF0 : ¬ (bJ r s es = true ∧ (0 ≤ x ∧ x < s) ∧ 0 ≤ m ∧ m ≤ 4) → F = [] := fun h => by rw [hF]; unfold kY; rw [if_neg h]
 have hF1 : (bJ r s es = true ∧ (0 ≤ x ∧ x < s) ∧ 0 ≤ m ∧ m ≤ 4) → F = kz es (bH r.toNat) x m.toNat := fun h => by rw [hF]; unfold kY; rw [if_pos h]
 have b0 := ae g0; have b1 := ae g1; have b2 := ae g2; replace g0 := af g0 hb2 hlt1; replace g1 := af g1 hb2 hlt1; replace g2 := af g2 hb2 hlt1; have hlt2 : w.heap.size < w2.heap.size := by omega
 have hv0 : fM w2 w1.heap.size (.slice (some ⟨w1.heap.size, 0, none⟩) 0 0) [] := by
  rw [hw2]; exact ⟨bU.lit w1, fun p hp => (List.not_mem_nil hp).elim, List.Pairwise.nil⟩
 replace hno := ae hno; replace hF0 := ae hF0; replace hF1 := ae hF1; replace hF := ae hF; replace hn := ae hn; replace h := ae h; replace hs1 := ae hs1; replace hs2 := ae hs2; replace hv0 := ae hv0; replace hb2 := ae hb2; go_enter Tryz.func27, Tryz.ntmps27
 go_upto_region 1 with fail
 rw [← hw1]; replace hw1 := ae hw1; go_upto_region 2 with fail
 rw [← hw2]; replace hw2 := ae hw2; go_wp2_with fail; refine hcf.mono ?_; rintro e w3 ⟨rfl, hb3⟩; clear hcf; replace g0 := af g0 hb3 hlt2; replace g1 := af g1 hb3 hlt2; replace g2 := af g2 hb3 hlt2; have hb23 := ae hb3; have hs3 : w.heap.size < w3.heap.size := Nat.lt_of_lt_of_le hlt2 hb3.size; have hfin := ae (fun h : F = [] => hno.out h w3 hb3)
 clear hb3
 cases B with
 | false =>
  have hfin := ae (hfin.out (hF0.out (by rw [← hB]; simp)))
  replace hB := ae hB; go_wp2; go_ret; exact hfin.out
 | true =>
 have hg := hB.symm; unfold bJ at hg; rw [Bool.and_eq_true] at hg; have hlim := aZ hg.1; obtain ⟨rN, rfl⟩ : ∃ k : Nat, r = (k : Int) := ⟨r.toNat, by omega⟩
 obtain ⟨sN, rfl⟩ : ∃ k : Nat, s = (k : Int) := ⟨s.toNat, by omega⟩
 have hsub : IntKind.i64.wrap ((sN : Int) - 1) = (sN : Int) - 1 := IntWalk.i64_in _ (by omega)
 have hcx := fun W => iE W x 0 ((sN : Int) - 1)
 have hcy := fun W => iE W m 0 4
 by_cases hx : 0 ≤ x ∧ x ≤ (sN : Int) - 1
 case neg =>
  have hd : decide (0 ≤ x ∧ x ≤ (sN : Int) - 1) = false := decide_eq_false hx; have hfin := ae (hfin.out (hF0.out (fun h => hx ⟨h.2.1.1, by have := h.2.1.2; omega⟩)))
  clear hcy; replace hB := ae hB; replace hg := ae hg; replace hlim := ae hlim; replace hx := ae hx; go_wp2_with (go_at_call 63; refine (hcx _).mono ?_; rintro e w4 ⟨rfl, rfl⟩)
  go_ret; exact hfin.out
 have hdx : decide (0 ≤ x ∧ x ≤ (sN : Int) - 1) = true := decide_eq_true hx; simp only [hdx] at hcx; by_cases hm : 0 ≤ m ∧ m ≤ 4
 case neg =>
  have hd : decide (0 ≤ m ∧ m ≤ 4) = false := decide_eq_false hm; simp only [hd] at hcy; have hfin := ae (hfin.out (hF0.out (fun h => hm h.2.2)))
  replace hB := ae hB; replace hg := ae hg; replace hlim := ae hlim; replace hx := ae hx; replace hm := ae hm; go_wp2_with (go_at_call 63; first | ((with_reducible refine (hcx _).mono ?_); rintro e w4 ⟨rfl, rfl⟩) | ((with_reducible refine (hcy _).mono ?_); rintro e w5 ⟨rfl, rfl⟩))
  go_ret; exact hfin.out
 have hdy : decide (0 ≤ m ∧ m ≤ 4) = true := decide_eq_true hm; simp only [hdy] at hcy; have hxs : 0 ≤ x ∧ x < (sN : Int) := by omega
 have hFL := hF1.out ⟨hB.symm, hxs, hm.1, hm.2⟩; obtain ⟨mN, rfl⟩ : ∃ k : Nat, m = (k : Int) := ⟨m.toNat, by omega⟩
 rw [Int.toNat_natCast, Int.toNat_natCast] at hFL; have hm4 : mN ≤ 4 := by omega
 obtain ⟨LS, hLS⟩ := ag (bH rN); rw [← hLS] at hFL; have hlsok : uz LS := by rw [hLS]; exact wB (by omega)
 have hgood := Fg (es := es) hB.symm hlsok hxs; have hwalk := fun (k : Nat) (p : Wa) (hp : p ∈ dC es LS x k) => E8 (r := (rN : Int)) (s := (sN : Int)) hB.symm hxs hp
 have hmost := Fj (es := es) hlsok.1 x; have hbelow := Fe (es := es) hlsok.1 x; have hxin : -9223372036854775808 ≤ x ∧ x ≤ 9223372036854775807 := by omega
 have hcw := fun (W : World) (k : Nat) (p : Wa) (vz : Value) (hW : Below w1.heap.size w1 W) (hp : p ∈ dC es LS x k) (hk : k ≤ 4) (hz : bD W.heap.size W vz p.1) => AV W (rN : Int) (sN : Int) (.slice a n cap) es x vz p.1 (((h.out.below hb1).mono hb1.size).below hW |>.mono hW.size) hz hs hxin
  (fun q hq => by have := (hgood k p hp).2.1 q hq; omega) (by have := hn.out; omega) (by have := (hgood k p hp).1; omega)
 have hcn := fun (W : World) (y l : Int) (hW : Below w1.heap.size w1 W) => wG W (rN : Int) (sN : Int) (.slice a n cap) es y l (((h.out.below hb1).mono hb1.size).below hW |>.mono hW.size) (by have := hn.out; omega)
 replace hcw := ae hcw; replace hcn := ae hcn; replace hgood := ae hgood; replace hwalk := ae hwalk; replace hmost := ae hmost; replace hbelow := ae hbelow; replace hlsok := ae hlsok; replace hLS := ae hLS; replace hFL := ae hFL; replace hB := ae hB; replace hg := ae hg; replace hlim := ae hlim; replace hx := ae hx; replace hm := ae hm; replace hxs := ae hxs; go_upto_region 4 with (go_at_call 63; first | ((with_reducible refine (hcx _).mono ?_); rintro e w4 ⟨rfl, rfl⟩) | ((with_reducible refine (hcy _).mono ?_); rintro e w5 ⟨rfl, rfl⟩))
 clear hcx hcy hdx hdy; obtain ⟨w4, hw4⟩ := ag (w3.alloc (.cells #[] 3)); obtain ⟨w5, hw5⟩ := ag (w4.alloc (.cells #[.slice (some ⟨w3.heap.size, 0, none⟩) 0 0] 33)); have hb4 : Below w3.heap.size w3 w4 := by rw [hw4]; exact (Below.refl _ _).alloc (nl _) _
 have hs4 : w4.heap.size = w3.heap.size + 1 := by rw [hw4]; simp
 have hb5 : Below w3.heap.size w3 w5 := by rw [hw5]; exact hb4.alloc hb4.size _
 have hs5 : w5.heap.size = w4.heap.size + 1 := by rw [hw5]; simp
 have h13 : w1.heap.size ≤ w3.heap.size := by have := hs2.out; have := hb23.out.size; omega
 have hrowL : fM w5 w1.heap.size (.slice (some ⟨w4.heap.size, 0, none⟩) 1 1) [(.slice (some ⟨w3.heap.size, 0, none⟩) 0 0, ([], x))] := by
  refine ⟨⟨rfl, .inr ⟨w4.heap.size, 1, #[.slice (some ⟨w3.heap.size, 0, none⟩) 0 0], rfl, by omega, by rw [hw5]; exact heap_alloc_new _ _, nl _, by unfold maxLen; omega, rfl, rfl⟩⟩, ⟨fun p hp => ?_, List.pairwise_singleton _ _⟩⟩
  rw [List.mem_singleton] at hp; subst hp; have h4 : bg w4 w3.heap.size w4.heap.size (.slice (some ⟨w3.heap.size, 0, none⟩) 0 0) [] := by rw [hw4]; exact (ak.lit w3).row (by simp)
  refine ⟨(h4.keep2 (w' := w5) (hi' := w5.heap.size) (by omega) (fun b _ hlt => by rw [hw5]; exact heap_alloc_old _ _ hlt)).wide h13 (nl _), fun b hb => ?_⟩
  have h6 : w3.heap.size = b := (by simpa [Value.ownBlock] using hb)
  simp [Value.ownBlock]; omega
 have hrowO : fM w5 w1.heap.size (.slice (some ⟨w1.heap.size, 0, none⟩) 0 0) [] := (hv0.out.below hb23.out).below hb5; have haway : jZ (.slice (some ⟨w1.heap.size, 0, none⟩) 0 0) (.slice (some ⟨w4.heap.size, 0, none⟩) 1 1) [(.slice (some ⟨w3.heap.size, 0, none⟩) 0 0, (([] : List Int), x))] := by
  have hlt13 : w1.heap.size < w3.heap.size := by have := hs2.out; have := hb23.out.size; omega
  refine ⟨fun b hb => ?_, fun p hp b hb => ?_⟩
  · have h6 : w1.heap.size = b := (by simpa [Value.ownBlock] using hb)
    simp [Value.ownBlock]; omega
  · rw [List.mem_singleton] at hp
    subst hp; have h6 : w3.heap.size = b := (by simpa [Value.ownBlock] using hb)
    simp [Value.ownBlock]; omega
 have p0 := af g0 hb5 hs3; have p1 := af g1 hb5 hs3; have p2 := af g2 hb5 hs3; have hcl := Ap w5 rN (by have := hlim.out; omega)
 rw [← hLS.out] at hcl; have hs5w : w.heap.size < w5.heap.size := by omega
 have hsz5 : w1.heap.size < w5.heap.size := by omega
 have hbw5 := ae (show Below w1.heap.size w1 w5 from hb2.out.trans ((hb23.out.mono (by have := hs2.out; omega)).trans (hb5.mono h13)))
 replace hrowL := ae hrowL; replace hrowO := ae hrowO; replace haway := ae haway; replace hb4 := ae hb4; have hb35 := ae hb5; clear hb5; go_upto_region 5 with fail
 rw [← hw4, ← hw5]; have hs4' : w4.heap.size = w3.heap.size + 1 := hs4; simp only [← hs4']; replace hs4 := ae hs4; replace hs4' := ae hs4'; replace hs5 := ae hs5; replace hw4 := ae hw4; replace hw5 := ae hw5; clear g0 g1 g2; go_wp2_with fail; refine hcl.mono ?_; rintro e wl ⟨vt, rfl, hrowl, hbl⟩; clear hcl; obtain ⟨M, hM⟩ := ag LS.length; have hM6 : M ≤ 6 := by rw [hM]; exact hlsok.out.1
 obtain ⟨al, cl, rfl⟩ : ∃ a c, vt = Value.slice a M c := by
  obtain ⟨_, ⟨h1, h2⟩ | ⟨g, off, cap, cur, h1, _⟩⟩ := hrowl
  · exact ⟨_, _, by rw [h1, hM, h2]; rfl⟩
  · exact ⟨_, _, by rw [hM]; exact h1⟩
 obtain ⟨vt, hvt⟩ := ag (Value.slice al M cl); have hRO := hrowO.out.below hbl; have hRL := hrowL.out.below hbl; have hTl := hrowl; rw [← hvt] at hTl; have hTlt := hTl.lt; have hO0 := ae (show ∃ O L : List (Value × Wa), O.map (·.2) = (jB es LS x 0).filter (fun p => p.2 == x) ∧ L.map (·.2) = dC es LS x 0 ∧ fM wl w1.heap.size (.slice (some ⟨w1.heap.size, 0, none⟩) 0 0) O ∧ fM wl w1.heap.size (.slice (some ⟨w4.heap.size, 0, none⟩) 1 1) L ∧ jZ (.slice (some ⟨w1.heap.size, 0, none⟩) 0 0) (.slice (some ⟨w4.heap.size, 0, none⟩) 1 1) L ∧
  dn wl w1.heap.size (.slice (some ⟨w1.heap.size, 0, none⟩) 0 0) (.slice (some ⟨w4.heap.size, 0, none⟩) 1 1) vt LS from
  ⟨[], _, rfl, rfl, hRO, hRL, haway.out, hTl.wide (by omega) (nl _), fun b hb e => by
   have h6 : w1.heap.size = b := (by simpa [Value.ownBlock] using hb)
   have := (hTlt b e).1; omega, fun b hb e => by
   have h6 : w4.heap.size = b := (by simpa [Value.ownBlock] using hb)
   have := (hTlt b e).1; have := hs5.out; omega⟩)
 have hbw0 := ae (hbw5.out.trans (hbl.mono hbw5.out.size)); have hl1 : w.heap.size < w1.heap.size := hlt1; replace hM := ae hM; replace hrowl := ae hrowl; replace hvt := ae hvt; clear hRO hRL hTl hTlt hbl p0 p1 p2; go_wp2
 go_loopg [7, 8, 10, 11, 12, 13, 14, 15, 16] (mN + 1) (fun g vo vl i q1 q2 q3 q4 q5 q6 wr => ∃ k : Nat, k + g = mN + 1 ∧ i = .int .i64 k ∧ Hid (∃ O L : List (Value × Wa), O.map (·.2) = (jB es LS x k).filter (fun p => p.2 == x) ∧ L.map (·.2) = dC es LS x k ∧ fM wr w1.heap.size vo O ∧ fM wr w1.heap.size vl L ∧ jZ vo vl L ∧ dn wr w1.heap.size vo vl vt LS) ∧ Hid (Below w1.heap.size w1 wr))
 case atStart => exact ⟨0, by omega, rfl, hO0, hbw0⟩
 case round =>
  clear hO0 hbw0; obtain ⟨k, hk, rfl, hPP, hb⟩ := hrel; obtain ⟨O, L, hO1, hL1, hRO, hRL, hA, hT⟩ := hPP.out; obtain ⟨a7, c7, hv7⟩ := bU.form hRO.1; obtain ⟨m7, hm7⟩ := ag ((O.map (·.1)).length); rw [← hm7] at hv7; subst hv7; obtain ⟨a8, c8, hv8⟩ := bU.form hRL.1; rw [List.length_map] at hv8; obtain ⟨ML, hML⟩ := ag L.length; rw [← hML] at hv8; subst hv8; replace hm7 := ae hm7; replace hPP := ae hPP
  by_cases hlt : k ≤ mN
  · have hki : (k : Int) ≤ (mN : Int) := by omega
    have hk4 : k ≤ 4 := by omega
    obtain ⟨LY, hLY⟩ := ag (dC es LS x k); obtain ⟨OB, hOB⟩ := ag ((jB es LS x k).filter (fun p : Wa => p.2 == x))
    have hnext : dC es LS x (k + 1) = LY.flatMap (kids es LS) := by rw [hLY]; rfl
    have hOn : (jB es LS x (k + 1)).filter (fun p : Wa => p.2 == x) = OB ++ LY.filter (fun p : Wa => p.2 == x) := by rw [jB, List.filter_append, hOB, hLY]
    have hLYl : LY.length ≤ 1296 := by rw [hLY]; exact hmost.out k hk4
    have hOBl : OB.length ≤ 1555 := by
     have := hbelow.out k (by omega)
     have h2 := (List.filter_sublist (p := fun p : Wa => p.2 == x) (l := jB es LS x k)).length_le
     rw [hOB]; omega
    rw [← hLY] at hL1; rw [← hOB] at hO1; have hMLY : ML = LY.length := by rw [hML, ← hL1, List.length_map]
    obtain ⟨wn, hwn⟩ := ag (wr.alloc (.cells #[] 33)); have hR3 := dO.turn hRO hRL hA hb.out.size hwn; have hT3 := dn.turn hT hwn; have hbn := ae (show Below w1.heap.size w1 wn by rw [hwn]; exact hb.out.alloc hb.out.size _)
    have hin0 := ae (show ∃ O N : List (Value × Wa), O.map (·.2) = OB ++ (LY.take 0).filter (fun p => p.2 == x) ∧ N.map (·.2) = (LY.take 0).flatMap (kids es LS) ∧ dO wn w1.heap.size (.slice a7 m7 c7) O (.slice (some ⟨wr.heap.size, 0, none⟩) 0 0) N (.slice a8 ML c8) L ∧ dn wn w1.heap.size (.slice a7 m7 c7) (.slice (some ⟨wr.heap.size, 0, none⟩) 0 0) vt LS from
     ⟨O, [], by rw [hO1]; simp, rfl, hR3, hT3⟩)
    replace hLY := ae hLY; replace hOB := ae hOB; replace hnext := ae hnext; replace hOn := ae hOn; replace hL1 := ae hL1; replace hO1 := ae hO1; replace hML := ae hML; replace hMLY := ae hMLY; replace hk := ae hk; clear hR3 hT3 hRO hRL hA hT; go_upto_region 10 with fail
    rw [← hwn]; replace hwn := ae hwn; go_wp2
    go_loopg [7, 11, 12, 13, 14, 15, 16] ML (fun g vo vn i q3 q4 q5 q6 wr => ∃ j : Nat, j + g = ML ∧ i = .int .i64 j ∧ Hid (∃ O N : List (Value × Wa), O.map (·.2) = OB ++ (LY.take j).filter (fun p => p.2 == x) ∧ N.map (·.2) = (LY.take j).flatMap (kids es LS) ∧ dO wr w1.heap.size vo O vn N (.slice a8 ML c8) L ∧ dn wr w1.heap.size vo vn vt LS) ∧ Hid (Below w1.heap.size w1 wr))
    case atStart => exact ⟨0, by omega, rfl, hin0, hbn⟩
    case round =>
     clear hin0 hbn; obtain ⟨j, hj, rfl, hPP2, hb2⟩ := hrel; obtain ⟨O, N, hO2, hN2, hR, hT⟩ := hPP2.out; obtain ⟨a7, m7, c7, rfl⟩ : ∃ a m c, u7 = Value.slice a m c := by
      obtain ⟨q1, q2, q3⟩ := bU.form hR.1.1.1; exact ⟨_, _, _, q3⟩
     obtain ⟨an, mn, cn, rfl⟩ : ∃ a m c, u11 = Value.slice a m c := by
      obtain ⟨q1, q2, q3⟩ := bU.form hR.1.2.1.1; exact ⟨_, _, _, q3⟩
     replace hPP2 := ae hPP2; by_cases hlt2 : j < ML
     · have hji : (j : Int) < (ML : Int) := by omega
       have hjL : j < L.length := by have := hML.out; omega
       have hjY : j < LY.length := by have := hMLY.out; omega
       obtain ⟨g8, cp8, hv8, hg8, d0⟩ := bU.at_ hR.1.2.2.1 j (by rw [List.length_map]; exact hjL)
       simp only [Value.slice.injEq] at hv8; obtain ⟨rfl, hz8, rfl⟩ := hv8; clear hz8; have hE := (hR.1.2.2.2.1 L[j] (List.getElem_mem hjL)).1; have hLj : LY[j] = L[j].2 := by
        have := hL1.out; simp only [← this, List.getElem_map]
       obtain ⟨aw, lw, cw, hq1, hq2⟩ : ∃ a n c, L[j].1 = Value.slice a n c ∧ n = L[j].2.1.length := by
        obtain ⟨_, ⟨h1, h2⟩ | ⟨g, off, cap, cur, h1, _⟩⟩ := hE
        · exact ⟨_, _, _, h1, by rw [h2]; rfl⟩
        · exact ⟨_, _, _, h1, rfl⟩
       have hpm : L[j].2 ∈ dC es LS x k := by rw [← hLY.out, ← hLj]; exact List.getElem_mem hjY
       have htf : (LY.take (j + 1)).filter (fun p : Wa => p.2 == x) = (LY.take j).filter (fun p : Wa => p.2 == x) ++ (if (L[j].2.2 == x) = true then [L[j].2] else []) := by
        have := BN (f := fun p : Wa => p.2 == x) hjY
        rw [this, hLj]
       have hkf : (LY.take (j + 1)).flatMap (kids es LS) = (LY.take j).flatMap (kids es LS) ++ kids es LS L[j].2 := by
        rw [List.take_succ_eq_append_getElem hjY, List.flatMap_append, hLj]; simp
       rw [List.getElem_map] at d0; rw [hq1] at d0; obtain ⟨qp, hqp⟩ := ag L[j]; rw [← hqp] at hE hq1 hq2 hpm htf hkf; obtain ⟨qv, WD, y⟩ := qp; simp only at hE hq1 hq2 hpm htf hkf
       subst hq1; have hgw := hgood.out k _ hpm; have hcall := hcw.out wr k (WD, y) (.slice aw lw cw) hb2.out hpm hk4 hE.read; obtain ⟨hwv, hwb⟩ := hwalk.out k _ hpm; rw [hwv, hwb] at hcall; simp only at hcall
       have f0 := af b0.out hb2.out hl1; have f1 := af b1.out hb2.out hl1; have f2 := af b2.out hb2.out hl1; have hOl : O.length ≤ 1555 + 1296 := by
        have h1 := congrArg List.length hO2; have h2 := (List.filter_sublist (p := fun p : Wa => p.2 == x) (l := LY.take j)).length_le
        rw [List.length_map, List.length_append] at h1; rw [List.length_take] at h2; omega
       have hNl : N.length ≤ 6 * 1296 := by
        have h1 := congrArg List.length hN2; have h2 := oh (f := kids es LS) (n := 6) (fun p => rJ hlsok.out.1 p) (LY.take j)
        rw [List.length_map] at h1; rw [List.length_take] at h2; have : 6 * min j LY.length ≤ 6 * 1296 := Nat.mul_le_mul_left _ (by omega)
        omega
       replace hE := ae hE; replace hLj := ae hLj; replace hq2 := ae hq2; replace hpm := ae hpm; replace hkf := ae hkf; replace hqp := ae hqp; replace hgw := ae hgw; replace hwv := ae hwv; replace hwb := ae hwb; replace hO2 := ae hO2; replace hN2 := ae hN2; replace hj := ae hj; replace hR := ae hR; replace hT := ae hT; go_upto_region 14 with fail
       clear d0; go_upto_region 15 with (go_at_call 21; refine hcall.mono ?_; rintro e wx ⟨rfl, hbx⟩)
       clear hcall f0 f1 f2; have hRx := ae (hR.out.below hbx); have hTx := ae (hT.out.below hbx); have hbx2 := ae (show Below w1.heap.size w1 wx from hb2.out.trans (hbx.mono hb2.out.size))
       have hrdx : bD wx.heap.size wx (.slice aw lw cw) WD := (hE.out.read.below hbx).mono hbx.size; replace hbx := ae hbx; go_upto_if 65 with fail
       go_cut [7] from 46 to 116 (fun vo wx => ∃ (O9 : List (Value × Wa)) (a : Option Addr) (m c : Nat), vo = .slice a m c ∧ Hid (O9.map (·.2) = OB ++ (LY.take (j + 1)).filter (fun p => p.2 == x)) ∧ Hid (dO wx w1.heap.size vo O9 (.slice an mn cn) N (.slice (some ⟨g8, 0, none⟩) ML c8) L) ∧ Hid (dn wx w1.heap.size vo (.slice an mn cn) vt LS) ∧ Hid (Below w1.heap.size w1 wx))
       case first =>
        by_cases hend : y = x
        · have t0 : (y == x) = true := by rw [beq_iff_eq]; exact hend
          rw [if_pos t0] at htf; replace htf := ae htf; replace hend := ae hend; obtain ⟨wy, hwy⟩ := ag (wx.alloc (.cells #[] 3)); have hby : Below wx.heap.size wx wy := by rw [hwy]; exact (Below.refl _ _).alloc (nl _) _
          have hownY : ak wy wx.heap.size (.slice (some ⟨wx.heap.size, 0, none⟩) 0 0) [] := by rw [hwy]; exact ak.lit wx
          have hrdY := ae (hrdx.below hby); replace hrdx := ae hrdx; replace hownY := ae hownY; replace hwy := ae hwy; go_wp2_with (at_builtin; (try rw [← hwy.out]); go_must (refine jT rfl _ _ rfl wx.heap.size _ _ [] WD wx.heap.size rfl rfl (by exact hownY.out) hrdY.out (by simp; have := hgw.out.1; simp only at this; omega) hby.size ?_))
          intro v' wz hownz hbz; try rw [List.nil_append] at hownz
          obtain ⟨az, mz, cz, rfl⟩ : ∃ a m c, v' = Value.slice a m c := by
           obtain ⟨_, ⟨h1, _⟩ | ⟨g, cap, cur, h1, _⟩⟩ := hownz <;> exact ⟨_, _, _, h1⟩
          have hbxz : Below wx.heap.size wx wz := hby.trans hbz; have hrowz := ak.row hownz (by have := hgw.out.1; simp only at this; omega)
          have hownO := ae (hRx.out.below hbxz).1.1.1; have hbz2 := ae (show Below w1.heap.size w1 wz from hbx2.out.trans (hbxz.mono hbx2.out.size))
          replace hby := ae hby; replace hbz := ae hbz; replace hbxz := ae hbxz; replace hrowz := ae hrowz; clear hownz; go_wp2_with (at_builtin; go_must (refine l7 rfl _ _ rfl w1.heap.size (.slice a7 m7 c7) (O.map (·.1)) az mz cz rfl rfl (by exact hownO.out) (by rw [List.length_map]; omega) hbz2.out.size ?_))
          intro v' w9 hown9 hg9 hloc9; obtain ⟨b9, n9, e9, rfl⟩ : ∃ a m c, v' = Value.slice a m c := by
           obtain ⟨_, ⟨h1, _⟩ | ⟨g, cap, cur, h1, _⟩⟩ := hown9 <;> exact ⟨_, _, _, h1⟩
          have hR9 := ae (dO.out (k := (WD, y)) hRx.out hbx2.out.size hbxz.out hrowz.out hg9 hloc9 hown9); have hT9 := ae (dn.out hTx.out hbxz.out hg9 hloc9); have hb9 := ae (show Below w1.heap.size w1 w9 from (hbz2.out.alloc hbz2.out.size _).grown hg9 (by have := hbz2.out.size; simp; omega) (fun q hq => (World.ownsRow.lt hownO.out q hq).1))
          have hO9 := ae (show (O ++ [(Value.slice az mz cz, (WD, y))]).map (·.2) = OB ++ (LY.take (j + 1)).filter (fun p => p.2 == x) by rw [List.map_append, hO2.out, htf.out, List.append_assoc]; rfl)
          obtain ⟨O9, hO9e⟩ := ag (O ++ [(Value.slice az mz cz, (WD, y))]); rw [← hO9e] at hR9 hO9; replace hO9e := ae hO9e; clear hown9 hg9 hloc9; go_wp2; go_meet
          exact ⟨O9, _, _, _, rfl, hO9, hR9, hT9, hb9⟩
        · have t0 : (y == x) = false := by rw [beq_eq_false_iff_ne]; exact hend
          rw [if_neg (by rw [t0]; simp), List.append_nil] at htf
          replace htf := ae htf; replace hend := ae hend; replace hrdx := ae hrdx; have hO9 := ae (show O.map (·.2) = OB ++ (LY.take (j + 1)).filter (fun p => p.2 == x) by rw [htf.out]; exact hO2.out)
          go_wp2; go_meet
          exact ⟨O, _, _, _, rfl, hO9, hRx, hTx, hbx2⟩
       case rest =>
       obtain ⟨O, a7, m7, c7, rfl, hO9, hRx, hTx, hbx2⟩ := hcut; obtain ⟨NB, hNB⟩ := ag ((LY.take j).flatMap (kids es LS)); obtain ⟨vo, hvo⟩ := ag (Value.slice a7 m7 c7); obtain ⟨vl, hvl⟩ := ag (Value.slice (some ⟨g8, 0, none⟩) ML c8); have hin1 := ae (show ∃ N : List (Value × Wa), N.map (·.2) = NB ++ (LS.take 0).flatMap (dX es (WD, y)) ∧ dO wc w1.heap.size vo O (.slice an mn cn) N vl L ∧ dn wc w1.heap.size vo (.slice an mn cn) vt LS from ⟨N, by rw [hN2.out, hNB]; simp, by rw [hvo, hvl]; exact hRx.out, by rw [hvo]; exact hTx.out⟩)
       replace hNB := ae hNB; replace hvo := ae hvo; replace hvl := ae hvl; obtain ⟨O, hOx, hO9⟩ : ∃ z, z = O ∧ Hid (z.map (·.2) = OB ++ (LY.take (j + 1)).filter (fun p => p.2 == x)) := ⟨_, rfl, hO9⟩
       rw [← hOx] at hin1; replace hOx := ae hOx; clear hR hT hRx hTx; go_wp2
       go_loopg [11, 16] M (fun g vn i wr => ∃ t : Nat, t + g = M ∧ i = .int .i64 t ∧ Hid (∃ N : List (Value × Wa), N.map (·.2) = NB ++ (LS.take t).flatMap (dX es (WD, y)) ∧ dO wr w1.heap.size vo O vn N vl L ∧ dn wr w1.heap.size vo vn vt LS) ∧ Hid (Below w1.heap.size w1 wr))
       case atStart => exact ⟨0, by omega, rfl, hin1, hbx2⟩
       case round =>
        clear hin1; obtain ⟨t, ht, rfl, hPP3, hb3⟩ := hrel; obtain ⟨N, hN1, hR, hT⟩ := hPP3.out; obtain ⟨an, mn, cn, rfl⟩ : ∃ a m c, u11 = Value.slice a m c := by
         obtain ⟨q1, q2, q3⟩ := bU.form hR.1.2.1.1; exact ⟨_, _, _, q3⟩
        by_cases hlt3 : t < M
        · have hti : (t : Int) < (M : Int) := by omega
          obtain ⟨bt, ot, hal, hbtr, cl0⟩ := (hT.1.read).at2' hvt.out t (by have := hM.out; omega)
          subst hal; obtain ⟨l, hl⟩ := ag (LS.getD t 0); have htl : t < LS.length := by have := hM.out; omega
          have hlin := hlsok.out.2 l (by rw [hl, gD, gE htl]; exact List.getElem_mem htl)
          rw [← hl] at cl0; have hSn : (LS.take (t + 1)).flatMap (dX es (WD, y)) = (LS.take t).flatMap (dX es (WD, y)) ++ dX es (WD, y) l := by
           rw [List.take_add_one, gE htl, Option.toList_some, List.flatMap_append, hl, gD, gE htl]; simp
          have hNl : N.length ≤ 6 * 1296 + 6 := by
           have h1 := congrArg List.length hN1; have h2 := oh (f := kids es LS) (n := 6) (fun p => rJ hlsok.out.1 p) (LY.take j)
           have h3 : ((LS.take t).flatMap (dX es (WD, y))).length ≤ 1 * (LS.take t).length := oh (f := dX es (WD, y)) (n := 1) (fun z => by unfold dX; split <;> simp) (LS.take t)
           rw [List.length_map, List.length_append, hNB.out] at h1; rw [List.length_take] at h2 h3; have : 6 * min j LY.length ≤ 6 * 1296 := Nat.mul_le_mul_left _ (by omega)
           have := hM.out; omega
          have hjL2 : L[j] ∈ L := List.getElem_mem hjL; have hrwr : bg wr w1.heap.size wr.heap.size (.slice aw lw cw) WD := by
           have := (hR.1.2.2.2.1 L[j] hjL2).1; rw [← hqp.out] at this; exact this
          have f0 := af b0.out hb3.out hl1; have f1 := af b1.out hb3.out hl1; have f2 := af b2.out hb3.out hl1; obtain ⟨we, hwe⟩ := ag wr.drew; have hbwe : Below wr.heap.size wr we := by rw [hwe]; exact (Below.refl _ _).drew
          have hsde := ae (show we.heap.size = wr.heap.size by rw [hwe]; rfl)
          have hb1e := ae (show Below w1.heap.size w1 we from hb3.out.trans (hbwe.mono hb3.out.size))
          have p0 : we.cell? ⟨w.heap.size, 0, none⟩ = some (.int .i64 (rN : Int)) := by rw [hwe]; exact f0
          have p1 : we.cell? ⟨w.heap.size, 1, none⟩ = some (.int .i64 (sN : Int)) := by rw [hwe]; exact f1
          have p2 : we.cell? ⟨w.heap.size, 2, none⟩ = some (.slice a n cap) := by rw [hwe]; exact f2
          have p3 : we.cell? ⟨bt, ot + t, none⟩ = some (.int .i64 l) := by rw [hwe]; exact cl0
          have hlp : w.heap.size < we.heap.size := by have := hsde.out; have := hb3.out.size; omega
          have hbt : bt < we.heap.size := by have := hsde.out; omega
          obtain ⟨nx, hnx⟩ := ag (aV es y l); have hcall := hcn.out we y l hb1e.out; rw [← hnx] at hcall; have hRe := ae (hR.below hbwe); have hTe := ae (hT.below hbwe); have hrwe := ae (show bD we.heap.size we (.slice aw lw cw) WD from (hrwr.read.below hbwe).mono hbwe.size)
          replace hwe := ae hwe; replace hbwe := ae hbwe; replace hl := ae hl; replace hSn := ae hSn; replace hN1 := ae hN1; replace hPP3 := ae hPP3; replace hrwr := ae hrwr; replace hR := ae hR; replace hT := ae hT; replace ht := ae ht; clear f0 f1 f2 cl0; by_cases hw0 : lw = 0
          · have hwd : WD = [] := List.length_eq_zero_iff.1 (by rw [← hq2.out]; exact hw0)
            have t1 : ((lw : Int) == 0) = true := by rw [beq_iff_eq]; omega
            have hok : nJ WD l = true := by rw [hwd]; rfl
            replace hw0 := ae hw0; replace hwd := ae hwd; replace hok := ae hok; have hk1 := ae (show nx ≥ 0 → dX es (WD, y) l = [(WD ++ [l], nx)] from fun hn0 => by unfold dX; rw [if_pos ⟨by show 0 ≤ aV es y l; rw [← hnx]; exact hn0, hok.out⟩, hnx])
            have hk0 := ae (show ¬ nx ≥ 0 → dX es (WD, y) l = [] from fun hn0 => by unfold dX; rw [if_neg]; rintro ⟨h, _⟩; have h2 : 0 ≤ aV es y l := h; rw [← hnx] at h2; exact hn0 h2)
            replace hnx := ae hnx; go_upto_region 20 with fail
            refine bV (fun _ _ d _ _ h => by cases d <;> exact h) (fun Q' hnorm hpan => ?_)
            refine wp_region_held_drew (S := (fun z => z.cell? ⟨w.heap.size, 0, none⟩ = some (.int .i64 (rN : Int)) ∧ z.cell? ⟨w.heap.size, 1, none⟩ = some (.int .i64 (sN : Int)) ∧ z.cell? ⟨w.heap.size, 2, none⟩ = some (.slice a n cap) ∧ z.cell? ⟨bt, ot + t, none⟩ = some (.int .i64 l))) (by kernel_rfl) ?_ (fun hHeld => ?_)
            · try dsimp only
              rw [← hwe.out]
              ((repeat' apply And.intro) <;> assumption)
            rw [← hwe.out] at hHeld ⊢; refine tk 0 78 ?_; refine tk 1 79 ?_; refine tk 2 80 ?_; refine tk 3 81 ?_; refine tn 4 82 ?_; refine tn 5 83 ?_; refine tn 6 84 ?_; refine tn 7 85 ?_; refine tn 8 86 ?_; refine tn 9 87 ?_; refine tn 10 88 ?_; refine tn 11 89 ?_; refine tn 12 90 ?_; refine tn 13 91 ?_; refine tn 14 92 ?_; refine tn 15 93 ?_; refine tk 16 94 ?_; refine tk 17 95 ?_; refine tg 18 96 ?_
            refine tg 19 97 ?_; refine tg 20 98 ?_; refine tg 21 99 ?_; refine tg 22 100 ?_; refine tg 23 101 ?_; refine rd 24 (fun K hK => ?_)
            rw [if_pos (by kernel_rfl)]
            go_simp; go_at_call 64
            (with_reducible refine hcall.mono ?_)
            rintro e w6 ⟨rfl, hb6⟩; have k0 := af p0 hb6 hlp; have k1 := af p1 hb6 hlp; have k2 := af p2 hb6 hlp; have f3 := af p3 hb6 hbt; refine hK.out _ _ ?_ (fun hHeld => ?_)
            · try dsimp only
              ((repeat' apply And.intro) <;> assumption)
            clear hK; try simp only [Act.put, aJ, aH, aI]
            refine tg 25 103 ?_; refine tk 26 104 ?_; refine wpAnyH_done (by kernel_rfl) ?_ _
            refine hnorm _ _ ?_; clear hnorm hpan; repeat clear hHeld
            try simp only [Exit.then]
            have hRq := ae (hRe.out.below hb6); have hTq := ae (hTe.out.below hb6); have hbq := ae (show Below w1.heap.size w1 w6 from hb1e.out.trans (hb6.mono hb1e.out.size))
            have hrwq := ae ((hrwe.out.below hb6).mono hb6.size); clear p0 p1 p2 p3 hcall; by_cases hn0 : nx ≥ 0
            · replace hk1 := ae (hk1.out hn0)
              clear hk0; obtain ⟨wd, hwd⟩ := ag w6.drew; have hb6d : Below w6.heap.size w6 wd := by rw [hwd]; exact (Below.refl _ _).drew
              have hRd := ae (hRq.out.below hb6d); have hTd := ae (hTq.out.below hb6d); have hb1d := ae (show Below w1.heap.size w1 wd from hbq.out.trans (hb6d.mono hbq.out.size))
              have kwd : wd.cell? ⟨bt, ot + t, none⟩ = some (.int .i64 l) := af f3 hb6d (Nat.lt_of_lt_of_le hbt hb6.size); have hWDl : WD.length ≤ 4 := by have := hgw.out.1; simp only at this; omega
              have hrW := ae ((hrwq.out.below hb6d).mono hb6d.size); have hbt6 : bt < wd.heap.size := Nat.lt_of_lt_of_le hbt (Nat.le_trans hb6.size hb6d.size); have hbwd : Below wd.heap.size wd wd := Below.refl _ _; replace hwd := ae hwd; replace hb6d := ae hb6d; replace hb6 := ae hb6; obtain ⟨hbt9, hbt⟩ : ∃ z : bt < wd.heap.size, bt < wd.heap.size := ⟨hbt6, hbt6⟩; clear hbt9 hbt6; go_upto_region 21 with fail
              refine bV (fun _ _ d _ _ h => by cases d <;> exact h) (fun Q' hnorm hpan => ?_)
              refine wp_region_held_drew (S := (fun z => z.cell? ⟨bt, ot + t, none⟩ = some (.int .i64 l))) (by kernel_rfl) ?_ (fun hHeld => ?_)
              · try dsimp only
                rw [← hwd.out]; exact kwd
              rw [← hwd.out] at hHeld ⊢; refine tk 0 105 ?_; refine tk 2 107 ?_; refine tk 4 109 ?_; refine tk 5 110 ?_; refine tk 6 111 ?_; refine tk 7 112 ?_; refine wpAnyH_ready (rs := [1, 8]) (by kernel_rfl) (by simp) ?_
              refine AllReadyH.cons rfl (fun K hK => ?_) ?_
              ·
               rw [if_pos (by rfl)]
               go_simp; obtain ⟨v1x0, hv1x0⟩ := ag (wd.alloc (.cells #[] 3)); have hbv1x0 : Below wd.heap.size wd v1x0 := by rw [hv1x0]; exact hbwd.alloc hbwd.size _
               have hsv1x0 := ae (show v1x0.heap.size = wd.heap.size + 1 by rw [hv1x0]; simp)
               have hown67 := ae (show ak v1x0 wd.heap.size (.slice (some ⟨wd.heap.size, 0, none⟩) 0 0) [] by rw [hv1x0]; exact (ak.lit wd).mono hbwd.size)
               rw [← hv1x0]; replace hv1x0 := ae hv1x0; have kv1x0 := af kwd hbv1x0 hbt; refine hK.out _ _ ?_ (fun hHeld => ?_)
               · try dsimp only
                 exact kv1x0
               clear hK; try simp only [Act.put, aJ, aH, aI]
               refine wpAnyH_ready (rs := [3, 8]) (by kernel_rfl) (by simp) ?_
               refine AllReadyH.cons rfl (fun K hK => ?_) ?_
               ·
                rw [if_pos (by rfl)]
                refine dw _ _ rfl wd.heap.size _ _ [] WD wd.heap.size rfl rfl hown67.out (hrW.out.below hbv1x0) (by simp; omega) hbv1x0.size ?_
                intro v75 v3x1 hown75 hg75 hl75; replace hg75 : World.grownBy v1x0 v3x1 (Value.ownBlock (.slice (some ⟨wd.heap.size, 0, none⟩) 0 0)) := hg75; rw [List.nil_append] at hown75; obtain ⟨a75, m75, c75, rfl⟩ : ∃ a m c, v75 = Value.slice a m c := by
                 obtain ⟨_, ⟨h1, _⟩ | ⟨g, cap, cur, h1, _⟩⟩ := hown75 <;> exact ⟨_, _, _, h1⟩
                have hbv3x1 : Below wd.heap.size wd v3x1 := hbv1x0.grown hg75 hbv1x0.size (fun q hq => by have h2 : wd.heap.size = q := (by simpa [Value.ownBlock] using hq); have := hbwd.size; omega)
                have hsv3x1 := ae hg75.size; replace hown75 := ae hown75; clear hg75 hl75; have kv3x1 := af kwd hbv3x1 hbt; refine hK.out _ _ ?_ (fun hHeld => ?_)
                · try dsimp only
                  exact kv3x1
                clear hK; try simp only [Act.put, aJ, aH, aI]
                refine rd 8 (fun K hK => ?_)
                rw [if_pos (by rfl)]
                go_simp; obtain ⟨v8x2, hv8x2⟩ := ag (v3x1.alloc (.cells #[.int .i64 l] 3)); have hbv8x2 : Below wd.heap.size wd v8x2 := by rw [hv8x2]; exact hbv3x1.alloc hbv3x1.size _
                have hsv8x2 := ae (show v8x2.heap.size = v3x1.heap.size + 1 by rw [hv8x2]; simp)
                have h80 := ae (show v8x2.heap[v3x1.heap.size]? = some (.cells #[.int .i64 l] 3 (0, 0)) by rw [hv8x2]; exact heap_alloc_new _ _)
                replace hown75 := ae (show ak v8x2 wd.heap.size (.slice a75 m75 c75) WD by rw [hv8x2]; exact World.ownsRow.alloc hown75.out _)
                rw [← hv8x2]; replace hv8x2 := ae hv8x2; have kv8x2 := af kwd hbv8x2 hbt; refine hK.out _ _ ?_ (fun hHeld => ?_)
                · try dsimp only
                  exact kv8x2
                clear hK; try simp only [Act.put, aJ, aH, aI]
                refine rd 9 (fun K hK => ?_)
                rw [if_pos (by rfl)]
                have hr80 : bD v8x2.heap.size v8x2 (.slice (some ⟨v3x1.heap.size, 0, none⟩) 1 1) [l] := ⟨by simp, _, _, rfl, ⟨(fun e => by cases e), nl _⟩, .inr ⟨_, 0, rfl, (Array.getElem?_eq_some_iff.1 h80.out).1, fun z hz => by
                 have hz0 : z = 0 := by simpa using hz
                 subst hz0; rw [cell_of_heap h80.out]; rfl⟩⟩
                refine dw _ _ rfl wd.heap.size _ _ WD [l] v8x2.heap.size rfl rfl hown75.out hr80 (by simp; omega) hbv8x2.size ?_
                intro v81 v9x3 hown114 hg81 hl81; replace hg81 : World.grownBy v8x2 v9x3 (Value.ownBlock (.slice a75 m75 c75)) := hg81; obtain ⟨a114, m114, c114, rfl⟩ : ∃ a m c, v81 = Value.slice a m c := by
                 obtain ⟨_, ⟨h1, _⟩ | ⟨g, cap, cur, h1, _⟩⟩ := hown114 <;> exact ⟨_, _, _, h1⟩
                have hbv9x3 : Below wd.heap.size wd v9x3 := hbv8x2.grown hg81 hbv8x2.size (fun q hq => (World.ownsRow.lt hown75.out q hq).1)
                replace hown114 := ae hown114; clear hg81 hl81 hr80; have kv9x3 := af kwd hbv9x3 hbt; refine hK.out _ _ ?_ (fun hHeld => ?_)
                · try dsimp only
                  exact kv9x3
                clear hK; try simp only [Act.put, aJ, aH, aI]
                refine rd 10 (fun K hK => ?_)
                rw [if_pos (by rfl)]
                go_simp; have kx : (v9x3.alloc (.cells #[.slice a114 m114 c114] 33)).cell? ⟨bt, ot + t, none⟩ = some (.int .i64 l) := af kv9x3 ((Below.refl _ _).alloc (nl _) _) (Nat.lt_of_lt_of_le hbt hbv9x3.size); refine hK.out _ _ ?_ (fun hHeld => ?_)
                · try dsimp only
                  exact kx
                clear hK; try simp only [Act.put, aJ, aH, aI]
                refine rd 11 (fun K hK => ?_)
                rw [if_pos (by rfl)]
                have hR9 := hRd.out.below hbv9x3; have hownN := ae hR9.1.2.1.1; have hrow9 := ak.row hown114.out (by rw [List.length_append]; simp; omega)
                refine iY _ _ rfl w1.heap.size (.slice an mn cn) (N.map (·.1)) a114 m114 c114 rfl rfl hownN.out (by rw [List.length_map]; omega) (by have := hbv9x3.size; have := hb1d.out.size; omega) ?_
                intro v116 w11 hown11 hg11 hloc11; replace hg11 : (v9x3.alloc (.cells #[.slice a114 m114 c114] 33)).grownBy w11 (Value.ownBlock (.slice an mn cn)) := hg11; replace hloc11 : v116.ownBlock = Value.ownBlock (.slice an mn cn) ∨ v116.ownBlock = some (v9x3.heap.size + 1) := hloc11; obtain ⟨a116, m116, c116, rfl⟩ : ∃ a m c, v116 = Value.slice a m c := by
                 obtain ⟨_, ⟨h1, _⟩ | ⟨g, cap, cur, h1, _⟩⟩ := hown11 <;> exact ⟨_, _, _, h1⟩
                have hR11 := dO.next (k := (WD ++ [l], nx)) hRd.out hb1d.out.size hbv9x3 hrow9 hg11 hloc11 hown11; have hT11 := dn.next hTd.out hbv9x3 hg11 hloc11; have hsz11 : v9x3.heap.size + 1 ≤ w11.heap.size := by have := hg11.size; simpa using this
                have k11 : w11.cell? ⟨bt, ot + t, none⟩ = some (.int .i64 l) := (World.cell?_of_block (w := v9x3) (by show w11.heap[bt]? = v9x3.heap[bt]?; rw [hg11.block bt (by have := hbv9x3.size; simp; omega) (fun e => hTd.out.2.2 bt e.symm (by rw [hvt.out]; rfl)), heap_alloc_old _ _ (by have := hbv9x3.size; omega)])).trans kv9x3
                have hb11 := ae (show Below w1.heap.size w1 w11 from by
                 have z := hb1d.out.trans (hbv9x3.mono hb1d.out.size); exact (z.alloc z.size _).grown hg11 (by have := z.size; simp; omega) (fun q hq => (World.ownsRow.lt hownN.out q hq).1))
                clear hown11 hg11 hloc11 kx; refine hK.out _ _ ?_ (fun hHeld => ?_)
                · try dsimp only
                  exact k11
                clear hK; try simp only [Act.put, aJ, aH, aI]
                refine tk 12 11 ?_; refine wpAnyH_done (by kernel_rfl) ?_ _
                refine hnorm _ _ ?_; clear hnorm hpan; repeat clear hHeld
                try simp only [Exit.then]
                have hN9 := ae (show ∃ N : List (Value × Wa), N.map (·.2) = NB ++ (LS.take (t + 1)).flatMap (dX es (WD, y)) ∧ dO w11 w1.heap.size vo O (.slice a116 m116 c116) N vl L ∧ dn w11 w1.heap.size vo (.slice a116 m116 c116) vt LS from ⟨_, by rw [List.map_append, hSn.out, hk1.out, hN1.out, List.append_assoc]; rfl, hR11, hT11⟩)
                clear hR11 hT11 hR9 hrow9; go_wp2; go_roundg (M - (t + 1))
                case rel => exact ⟨t + 1, by have := ht.out; omega, by go_num, hN9, hb11⟩
                case measure => have := ht.out; omega
               refine AllReadyH.cons rfl (fun K hK => ?_) AllReadyH.nil
               rw [if_pos (by rfl)]
               go_simp; obtain ⟨v8x1, hv8x1⟩ := ag (v1x0.alloc (.cells #[.int .i64 l] 3)); have hbv8x1 : Below wd.heap.size wd v8x1 := by rw [hv8x1]; exact hbv1x0.alloc hbv1x0.size _
               have hsv8x1 := ae (show v8x1.heap.size = v1x0.heap.size + 1 by rw [hv8x1]; simp)
               have h80 := ae (show v8x1.heap[v1x0.heap.size]? = some (.cells #[.int .i64 l] 3 (0, 0)) by rw [hv8x1]; exact heap_alloc_new _ _)
               replace hown67 := ae (show ak v8x1 wd.heap.size _ [] by rw [hv8x1]; exact World.ownsRow.alloc hown67.out _)
               rw [← hv8x1]; replace hv8x1 := ae hv8x1; have kv8x1 := af kwd hbv8x1 hbt; refine hK.out _ _ ?_ (fun hHeld => ?_)
               · try dsimp only
                 exact kv8x1
               clear hK; try simp only [Act.put, aJ, aH, aI]
               refine rd 3 (fun K hK => ?_)
               rw [if_pos (by rfl)]
               refine dw _ _ rfl wd.heap.size _ _ [] WD wd.heap.size rfl rfl hown67.out (hrW.out.below hbv8x1) (by simp; omega) hbv8x1.size ?_
               intro v75 v3x2 hown75 hg75 hl75; replace hg75 : World.grownBy v8x1 v3x2 (Value.ownBlock (.slice (some ⟨wd.heap.size, 0, none⟩) 0 0)) := hg75; rw [List.nil_append] at hown75; obtain ⟨a75, m75, c75, rfl⟩ : ∃ a m c, v75 = Value.slice a m c := by
                obtain ⟨_, ⟨h1, _⟩ | ⟨g, cap, cur, h1, _⟩⟩ := hown75 <;> exact ⟨_, _, _, h1⟩
               have hbv3x2 : Below wd.heap.size wd v3x2 := hbv8x1.grown hg75 hbv8x1.size (fun q hq => by have h2 : wd.heap.size = q := (by simpa [Value.ownBlock] using hq); have := hbwd.size; omega)
               have hsv3x2 := ae hg75.size; replace h80 := ae (show v3x2.heap[v1x0.heap.size]? = some (.cells #[.int .i64 l] 3 (0, 0)) by rw [hg75.block _ (by have := hsv1x0.out; have := hsv8x1.out; have := hsv3x2.out;  omega) (by simp [Value.ownBlock]; have := hsv1x0.out; have := hsv8x1.out; have := hsv3x2.out;  omega)]; exact h80.out)
               replace hown75 := ae hown75; clear hg75 hl75; have kv3x2 := af kwd hbv3x2 hbt; refine hK.out _ _ ?_ (fun hHeld => ?_)
               · try dsimp only
                 exact kv3x2
               clear hK; try simp only [Act.put, aJ, aH, aI]
               refine rd 9 (fun K hK => ?_)
               rw [if_pos (by rfl)]
               have hr80 : bD v3x2.heap.size v3x2 (.slice (some ⟨v1x0.heap.size, 0, none⟩) 1 1) [l] := ⟨by simp, _, _, rfl, ⟨(fun e => by cases e), nl _⟩, .inr ⟨_, 0, rfl, (Array.getElem?_eq_some_iff.1 h80.out).1, fun z hz => by
                have hz0 : z = 0 := by simpa using hz
                subst hz0; rw [cell_of_heap h80.out]; rfl⟩⟩
               refine dw _ _ rfl wd.heap.size _ _ WD [l] v3x2.heap.size rfl rfl hown75.out hr80 (by simp; omega) hbv3x2.size ?_
               intro v81 v9x3 hown114 hg81 hl81; replace hg81 : World.grownBy v3x2 v9x3 (Value.ownBlock (.slice a75 m75 c75)) := hg81; obtain ⟨a114, m114, c114, rfl⟩ : ∃ a m c, v81 = Value.slice a m c := by
                obtain ⟨_, ⟨h1, _⟩ | ⟨g, cap, cur, h1, _⟩⟩ := hown114 <;> exact ⟨_, _, _, h1⟩
               have hbv9x3 : Below wd.heap.size wd v9x3 := hbv3x2.grown hg81 hbv3x2.size (fun q hq => (World.ownsRow.lt hown75.out q hq).1)
               replace hown114 := ae hown114; clear hg81 hl81 hr80; have kv9x3 := af kwd hbv9x3 hbt; refine hK.out _ _ ?_ (fun hHeld => ?_)
               · try dsimp only
                 exact kv9x3
               clear hK; try simp only [Act.put, aJ, aH, aI]
               refine rd 10 (fun K hK => ?_)
               rw [if_pos (by rfl)]
               go_simp; have kx : (v9x3.alloc (.cells #[.slice a114 m114 c114] 33)).cell? ⟨bt, ot + t, none⟩ = some (.int .i64 l) := af kv9x3 ((Below.refl _ _).alloc (nl _) _) (Nat.lt_of_lt_of_le hbt hbv9x3.size); refine hK.out _ _ ?_ (fun hHeld => ?_)
               · try dsimp only
                 exact kx
               clear hK; try simp only [Act.put, aJ, aH, aI]
               refine rd 11 (fun K hK => ?_)
               rw [if_pos (by rfl)]
               have hR9 := hRd.out.below hbv9x3; have hownN := ae hR9.1.2.1.1; have hrow9 := ak.row hown114.out (by rw [List.length_append]; simp; omega)
               refine iY _ _ rfl w1.heap.size (.slice an mn cn) (N.map (·.1)) a114 m114 c114 rfl rfl hownN.out (by rw [List.length_map]; omega) (by have := hbv9x3.size; have := hb1d.out.size; omega) ?_
               intro v116 w11 hown11 hg11 hloc11; replace hg11 : (v9x3.alloc (.cells #[.slice a114 m114 c114] 33)).grownBy w11 (Value.ownBlock (.slice an mn cn)) := hg11; replace hloc11 : v116.ownBlock = Value.ownBlock (.slice an mn cn) ∨ v116.ownBlock = some (v9x3.heap.size + 1) := hloc11; obtain ⟨a116, m116, c116, rfl⟩ : ∃ a m c, v116 = Value.slice a m c := by
                obtain ⟨_, ⟨h1, _⟩ | ⟨g, cap, cur, h1, _⟩⟩ := hown11 <;> exact ⟨_, _, _, h1⟩
               have hR11 := dO.next (k := (WD ++ [l], nx)) hRd.out hb1d.out.size hbv9x3 hrow9 hg11 hloc11 hown11; have hT11 := dn.next hTd.out hbv9x3 hg11 hloc11; have hsz11 : v9x3.heap.size + 1 ≤ w11.heap.size := by have := hg11.size; simpa using this
               have k11 : w11.cell? ⟨bt, ot + t, none⟩ = some (.int .i64 l) := (World.cell?_of_block (w := v9x3) (by show w11.heap[bt]? = v9x3.heap[bt]?; rw [hg11.block bt (by have := hbv9x3.size; simp; omega) (fun e => hTd.out.2.2 bt e.symm (by rw [hvt.out]; rfl)), heap_alloc_old _ _ (by have := hbv9x3.size; omega)])).trans kv9x3
               have hb11 := ae (show Below w1.heap.size w1 w11 from by
                have z := hb1d.out.trans (hbv9x3.mono hb1d.out.size); exact (z.alloc z.size _).grown hg11 (by have := z.size; simp; omega) (fun q hq => (World.ownsRow.lt hownN.out q hq).1))
               clear hown11 hg11 hloc11 kx; refine hK.out _ _ ?_ (fun hHeld => ?_)
               · try dsimp only
                 exact k11
               clear hK; try simp only [Act.put, aJ, aH, aI]
               refine tk 12 11 ?_; refine wpAnyH_done (by kernel_rfl) ?_ _
               refine hnorm _ _ ?_; clear hnorm hpan; repeat clear hHeld
               try simp only [Exit.then]
               have hN9 := ae (show ∃ N : List (Value × Wa), N.map (·.2) = NB ++ (LS.take (t + 1)).flatMap (dX es (WD, y)) ∧ dO w11 w1.heap.size vo O (.slice a116 m116 c116) N vl L ∧ dn w11 w1.heap.size vo (.slice a116 m116 c116) vt LS from ⟨_, by rw [List.map_append, hSn.out, hk1.out, hN1.out, List.append_assoc]; rfl, hR11, hT11⟩)
               clear hR11 hT11 hR9 hrow9; go_wp2; go_roundg (M - (t + 1))
               case rel => exact ⟨t + 1, by have := ht.out; omega, by go_num, hN9, hb11⟩
               case measure => have := ht.out; omega
              refine AllReadyH.cons rfl (fun K hK => ?_) AllReadyH.nil
              rw [if_pos (by rfl)]
              go_simp; obtain ⟨v8x0, hv8x0⟩ := ag (wd.alloc (.cells #[.int .i64 l] 3)); have hbv8x0 : Below wd.heap.size wd v8x0 := by rw [hv8x0]; exact hbwd.alloc hbwd.size _
              have hsv8x0 := ae (show v8x0.heap.size = wd.heap.size + 1 by rw [hv8x0]; simp)
              have h80 := ae (show v8x0.heap[wd.heap.size]? = some (.cells #[.int .i64 l] 3 (0, 0)) by rw [hv8x0]; exact heap_alloc_new _ _)
              rw [← hv8x0]; replace hv8x0 := ae hv8x0; have kv8x0 := af kwd hbv8x0 hbt; refine hK.out _ _ ?_ (fun hHeld => ?_)
              · try dsimp only
                exact kv8x0
              clear hK; try simp only [Act.put, aJ, aH, aI]
              refine rd 1 (fun K hK => ?_)
              rw [if_pos (by rfl)]
              go_simp; obtain ⟨v1x1, hv1x1⟩ := ag (v8x0.alloc (.cells #[] 3)); have hbv1x1 : Below wd.heap.size wd v1x1 := by rw [hv1x1]; exact hbv8x0.alloc hbv8x0.size _
              have hsv1x1 := ae (show v1x1.heap.size = v8x0.heap.size + 1 by rw [hv1x1]; simp)
              have hown67 := ae (show ak v1x1 wd.heap.size (.slice (some ⟨v8x0.heap.size, 0, none⟩) 0 0) [] by rw [hv1x1]; exact (ak.lit v8x0).mono hbv8x0.size)
              have h80v1x1 := ae (show v1x1.heap[wd.heap.size]? = some (.cells #[.int .i64 l] 3 (0, 0)) by rw [hv1x1, heap_alloc_old _ _ (by have := hsv8x0.out; have := hsv1x1.out;  omega)]; exact h80.out)
              replace h80 := h80v1x1; rw [← hv1x1]; replace hv1x1 := ae hv1x1; have kv1x1 := af kwd hbv1x1 hbt; refine hK.out _ _ ?_ (fun hHeld => ?_)
              · try dsimp only
                exact kv1x1
              clear hK; try simp only [Act.put, aJ, aH, aI]
              refine rd 3 (fun K hK => ?_)
              rw [if_pos (by rfl)]
              refine dw _ _ rfl wd.heap.size _ _ [] WD wd.heap.size rfl rfl hown67.out (hrW.out.below hbv1x1) (by simp; omega) hbv1x1.size ?_
              intro v75 v3x2 hown75 hg75 hl75; replace hg75 : World.grownBy v1x1 v3x2 (Value.ownBlock (.slice (some ⟨v8x0.heap.size, 0, none⟩) 0 0)) := hg75; rw [List.nil_append] at hown75; obtain ⟨a75, m75, c75, rfl⟩ : ∃ a m c, v75 = Value.slice a m c := by
               obtain ⟨_, ⟨h1, _⟩ | ⟨g, cap, cur, h1, _⟩⟩ := hown75 <;> exact ⟨_, _, _, h1⟩
              have hbv3x2 : Below wd.heap.size wd v3x2 := hbv1x1.grown hg75 hbv1x1.size (fun q hq => by have h2 : v8x0.heap.size = q := (by simpa [Value.ownBlock] using hq); have := hbv8x0.size; omega)
              have hsv3x2 := ae hg75.size; replace h80 := ae (show v3x2.heap[wd.heap.size]? = some (.cells #[.int .i64 l] 3 (0, 0)) by rw [hg75.block _ (by have := hsv8x0.out; have := hsv1x1.out; have := hsv3x2.out;  omega) (by simp [Value.ownBlock]; have := hsv8x0.out; have := hsv1x1.out; have := hsv3x2.out;  omega)]; exact h80.out)
              replace hown75 := ae hown75; clear hg75 hl75; have kv3x2 := af kwd hbv3x2 hbt; refine hK.out _ _ ?_ (fun hHeld => ?_)
              · try dsimp only
                exact kv3x2
              clear hK; try simp only [Act.put, aJ, aH, aI]
              refine rd 9 (fun K hK => ?_)
              rw [if_pos (by rfl)]
              have hr80 : bD v3x2.heap.size v3x2 (.slice (some ⟨wd.heap.size, 0, none⟩) 1 1) [l] := ⟨by simp, _, _, rfl, ⟨(fun e => by cases e), nl _⟩, .inr ⟨_, 0, rfl, (Array.getElem?_eq_some_iff.1 h80.out).1, fun z hz => by
               have hz0 : z = 0 := by simpa using hz
               subst hz0; rw [cell_of_heap h80.out]; rfl⟩⟩
              refine dw _ _ rfl wd.heap.size _ _ WD [l] v3x2.heap.size rfl rfl hown75.out hr80 (by simp; omega) hbv3x2.size ?_
              intro v81 v9x3 hown114 hg81 hl81; replace hg81 : World.grownBy v3x2 v9x3 (Value.ownBlock (.slice a75 m75 c75)) := hg81; obtain ⟨a114, m114, c114, rfl⟩ : ∃ a m c, v81 = Value.slice a m c := by
               obtain ⟨_, ⟨h1, _⟩ | ⟨g, cap, cur, h1, _⟩⟩ := hown114 <;> exact ⟨_, _, _, h1⟩
              have hbv9x3 : Below wd.heap.size wd v9x3 := hbv3x2.grown hg81 hbv3x2.size (fun q hq => (World.ownsRow.lt hown75.out q hq).1)
              replace hown114 := ae hown114; clear hg81 hl81 hr80; have kv9x3 := af kwd hbv9x3 hbt; refine hK.out _ _ ?_ (fun hHeld => ?_)
              · try dsimp only
                exact kv9x3
              clear hK; try simp only [Act.put, aJ, aH, aI]
              refine rd 10 (fun K hK => ?_)
              rw [if_pos (by rfl)]
              go_simp; have kx : (v9x3.alloc (.cells #[.slice a114 m114 c114] 33)).cell? ⟨bt, ot + t, none⟩ = some (.int .i64 l) := af kv9x3 ((Below.refl _ _).alloc (nl _) _) (Nat.lt_of_lt_of_le hbt hbv9x3.size); refine hK.out _ _ ?_ (fun hHeld => ?_)
              · try dsimp only
                exact kx
              clear hK; try simp only [Act.put, aJ, aH, aI]
              refine rd 11 (fun K hK => ?_)
              rw [if_pos (by rfl)]
              have hR9 := hRd.out.below hbv9x3; have hownN := ae hR9.1.2.1.1; have hrow9 := ak.row hown114.out (by rw [List.length_append]; simp; omega)
              refine iY _ _ rfl w1.heap.size (.slice an mn cn) (N.map (·.1)) a114 m114 c114 rfl rfl hownN.out (by rw [List.length_map]; omega) (by have := hbv9x3.size; have := hb1d.out.size; omega) ?_
              intro v116 w11 hown11 hg11 hloc11; replace hg11 : (v9x3.alloc (.cells #[.slice a114 m114 c114] 33)).grownBy w11 (Value.ownBlock (.slice an mn cn)) := hg11; replace hloc11 : v116.ownBlock = Value.ownBlock (.slice an mn cn) ∨ v116.ownBlock = some (v9x3.heap.size + 1) := hloc11; obtain ⟨a116, m116, c116, rfl⟩ : ∃ a m c, v116 = Value.slice a m c := by
               obtain ⟨_, ⟨h1, _⟩ | ⟨g, cap, cur, h1, _⟩⟩ := hown11 <;> exact ⟨_, _, _, h1⟩
              have hR11 := dO.next (k := (WD ++ [l], nx)) hRd.out hb1d.out.size hbv9x3 hrow9 hg11 hloc11 hown11; have hT11 := dn.next hTd.out hbv9x3 hg11 hloc11; have hsz11 : v9x3.heap.size + 1 ≤ w11.heap.size := by have := hg11.size; simpa using this
              have k11 : w11.cell? ⟨bt, ot + t, none⟩ = some (.int .i64 l) := (World.cell?_of_block (w := v9x3) (by show w11.heap[bt]? = v9x3.heap[bt]?; rw [hg11.block bt (by have := hbv9x3.size; simp; omega) (fun e => hTd.out.2.2 bt e.symm (by rw [hvt.out]; rfl)), heap_alloc_old _ _ (by have := hbv9x3.size; omega)])).trans kv9x3
              have hb11 := ae (show Below w1.heap.size w1 w11 from by
               have z := hb1d.out.trans (hbv9x3.mono hb1d.out.size); exact (z.alloc z.size _).grown hg11 (by have := z.size; simp; omega) (fun q hq => (World.ownsRow.lt hownN.out q hq).1))
              clear hown11 hg11 hloc11 kx; refine hK.out _ _ ?_ (fun hHeld => ?_)
              · try dsimp only
                exact k11
              clear hK; try simp only [Act.put, aJ, aH, aI]
              refine tk 12 11 ?_; refine wpAnyH_done (by kernel_rfl) ?_ _
              refine hnorm _ _ ?_; clear hnorm hpan; repeat clear hHeld
              try simp only [Exit.then]
              have hN9 := ae (show ∃ N : List (Value × Wa), N.map (·.2) = NB ++ (LS.take (t + 1)).flatMap (dX es (WD, y)) ∧ dO w11 w1.heap.size vo O (.slice a116 m116 c116) N vl L ∧ dn w11 w1.heap.size vo (.slice a116 m116 c116) vt LS from ⟨_, by rw [List.map_append, hSn.out, hk1.out, hN1.out, List.append_assoc]; rfl, hR11, hT11⟩)
              clear hR11 hT11 hR9 hrow9; go_wp2; go_roundg (M - (t + 1))
              case rel => exact ⟨t + 1, by have := ht.out; omega, by go_num, hN9, hb11⟩
              case measure => have := ht.out; omega
            · replace hk0 := ae (hk0.out hn0)
              clear hk1; have hN9 := ae (show ∃ N : List (Value × Wa), N.map (·.2) = NB ++ (LS.take (t + 1)).flatMap (dX es (WD, y)) ∧ dO w6 w1.heap.size vo O (.slice an mn cn) N vl L ∧ dn w6 w1.heap.size vo (.slice an mn cn) vt LS from ⟨N, by rw [hSn.out, hk0.out, List.append_nil]; exact hN1.out, hRq.out, hTq.out⟩)
              go_wp2; go_roundg (M - (t + 1))
              case rel => exact ⟨t + 1, by have := ht.out; omega, by go_num, hN9, hbq⟩
              case measure => have := ht.out; omega
          · have hne : WD ≠ [] := fun e => hw0 (by rw [hq2.out, e]; rfl)
            have t1 : ((lw : Int) == 0) = false := by rw [beq_eq_false_iff_ne]; omega
            obtain ⟨bw, ow, haw, hbwr, cw1⟩ := hrwr.out.read.at2 (lw - 1) (by have := hq2.out; omega)
            subst haw; obtain ⟨zl, hzl⟩ := ag (WD.getD (lw - 1) 0); rw [← hzl] at cw1; have hzin := hgw.out.2.1 zl (by
             have hkl : lw - 1 < WD.length := by have := hq2.out; omega
             rw [hzl, gD, gE hkl]; exact List.getElem_mem hkl)
            obtain ⟨lq, hlq⟩ : ∃ q, lw = q + 1 := ⟨lw - 1, by omega⟩
            rw [show lw - 1 = lq by omega] at cw1
            have p4 : we.cell? ⟨bw, ow + lq, none⟩ = some (.int .i64 zl) := by rw [hwe.out]; exact cw1
            have hbw : bw < we.heap.size := by have := hsde.out; omega
            have hlq1 : IntKind.i64.wrap ((lw : Int) - 1) = (lq : Int) := by rw [IntWalk.i64_in _ (by have := hq2.out; have := hgw.out.1; simp only at this; omega)]; omega
            have hlq2 : (lq : Int) < (lw : Int) := by omega
            have hneg : IntKind.i64.wrap (-zl) = -zl := IntWalk.i64_in _ (by omega)
            have hokb : nJ WD l = (l != -zl) := by rw [BZ hne, ← hq2.out, ← hzl]
            replace hzl := ae hzl; replace hlq := ae hlq; replace hne := ae hne; replace hw0 := ae hw0; by_cases hz : l = -zl
            · have t2 : (l != -zl) = false := by rw [bne_eq_false_iff_eq]; exact hz
              have hk0 := ae (show dX es (WD, y) l = [] by unfold dX; rw [if_neg]; rintro ⟨_, h⟩; have h2 : nJ WD l = true := h; rw [hokb, t2] at h2; cases h2)
              replace hokb := ae hokb; replace hz := ae hz; replace hnx := ae hnx; go_upto_region 20 with fail
              refine bV (fun _ _ d _ _ h => by cases d <;> exact h) (fun Q' hnorm hpan => ?_)
              refine wp_region_held_drew (S := (fun z => z.cell? ⟨w.heap.size, 0, none⟩ = some (.int .i64 (rN : Int)) ∧ z.cell? ⟨w.heap.size, 1, none⟩ = some (.int .i64 (sN : Int)) ∧ z.cell? ⟨w.heap.size, 2, none⟩ = some (.slice a n cap) ∧ z.cell? ⟨bt, ot + t, none⟩ = some (.int .i64 l) ∧ z.cell? ⟨bw, ow + lq, none⟩ = some (.int .i64 zl))) (by kernel_rfl) ?_ (fun hHeld => ?_)
              · try dsimp only
                rw [← hwe.out]
                ((repeat' apply And.intro) <;> assumption)
              rw [← hwe.out] at hHeld ⊢; refine tk 0 78 ?_; refine tk 1 79 ?_; refine tk 2 80 ?_; refine tk 3 81 ?_; refine tg 4 82 ?_; refine tg 5 83 ?_; refine tg 6 84 ?_; refine tg 7 85 ?_; refine tg 8 86 ?_; refine tg 9 87 ?_; refine tg 10 88 ?_; refine tg 11 89 ?_; refine tg 12 90 ?_; refine tg 13 91 ?_; refine tg 14 92 ?_; refine tg 15 93 ?_; refine tk 16 94 ?_; refine tk 17 95 ?_; refine tn 18 96 ?_
              refine tn 19 97 ?_; refine tn 20 98 ?_; refine tn 21 99 ?_; refine tn 22 100 ?_; refine tn 23 101 ?_; refine tn 24 102 ?_; refine tn 25 103 ?_; refine tk 26 104 ?_; refine wpAnyH_done (by kernel_rfl) ?_ _
              refine hnorm _ _ ?_; clear hnorm hpan; repeat clear hHeld
              try simp only [Exit.then]
              have hRq := hRe; have hTq := hTe; have hbq := hb1e; clear p0 p1 p2 p3 hcall; have hN9 := ae (show ∃ N : List (Value × Wa), N.map (·.2) = NB ++ (LS.take (t + 1)).flatMap (dX es (WD, y)) ∧ dO we w1.heap.size vo O (.slice an mn cn) N vl L ∧ dn we w1.heap.size vo (.slice an mn cn) vt LS from ⟨N, by rw [hSn.out, hk0.out, List.append_nil]; exact hN1.out, hRq.out, hTq.out⟩)
              go_wp2; go_roundg (M - (t + 1))
              case rel => exact ⟨t + 1, by have := ht.out; omega, by go_num, hN9, hbq⟩
              case measure => have := ht.out; omega
            · have t2 : (l != -zl) = true := by rw [bne_iff_ne]; exact hz
              have hok := ae (show nJ WD l = true by rw [hokb, t2])
              replace hokb := ae hokb; replace hz := ae hz; have hk1 := ae (show nx ≥ 0 → dX es (WD, y) l = [(WD ++ [l], nx)] from fun hn0 => by unfold dX; rw [if_pos ⟨by show 0 ≤ aV es y l; rw [← hnx]; exact hn0, hok.out⟩, hnx])
              have hk0 := ae (show ¬ nx ≥ 0 → dX es (WD, y) l = [] from fun hn0 => by unfold dX; rw [if_neg]; rintro ⟨h, _⟩; have h2 : 0 ≤ aV es y l := h; rw [← hnx] at h2; exact hn0 h2)
              replace hnx := ae hnx; go_upto_region 20 with fail
              refine bV (fun _ _ d _ _ h => by cases d <;> exact h) (fun Q' hnorm hpan => ?_)
              refine wp_region_held_drew (S := (fun z => z.cell? ⟨w.heap.size, 0, none⟩ = some (.int .i64 (rN : Int)) ∧ z.cell? ⟨w.heap.size, 1, none⟩ = some (.int .i64 (sN : Int)) ∧ z.cell? ⟨w.heap.size, 2, none⟩ = some (.slice a n cap) ∧ z.cell? ⟨bt, ot + t, none⟩ = some (.int .i64 l) ∧ z.cell? ⟨bw, ow + lq, none⟩ = some (.int .i64 zl))) (by kernel_rfl) ?_ (fun hHeld => ?_)
              · try dsimp only
                rw [← hwe.out]
                ((repeat' apply And.intro) <;> assumption)
              rw [← hwe.out] at hHeld ⊢; refine tk 0 78 ?_; refine tk 1 79 ?_; refine tk 2 80 ?_; refine tk 3 81 ?_; refine tg 4 82 ?_; refine tg 5 83 ?_; refine tg 6 84 ?_; refine tg 7 85 ?_; refine tg 8 86 ?_; refine tg 9 87 ?_; refine tg 10 88 ?_; refine tg 11 89 ?_; refine tg 12 90 ?_; refine tg 13 91 ?_; refine tg 14 92 ?_; refine tg 15 93 ?_; refine tk 16 94 ?_; refine tk 17 95 ?_; refine tg 18 96 ?_
              refine tg 19 97 ?_; refine tg 20 98 ?_; refine tg 21 99 ?_; refine tg 22 100 ?_; refine tg 23 101 ?_; refine rd 24 (fun K hK => ?_)
              rw [if_pos (by kernel_rfl)]
              go_simp; go_at_call 64
              (with_reducible refine hcall.mono ?_)
              rintro e w6 ⟨rfl, hb6⟩; have k0 := af p0 hb6 hlp; have k1 := af p1 hb6 hlp; have k2 := af p2 hb6 hlp; have f3 := af p3 hb6 hbt; have k4 := af p4 hb6 hbw; refine hK.out _ _ ?_ (fun hHeld => ?_)
              · try dsimp only
                ((repeat' apply And.intro) <;> assumption)
              clear hK; try simp only [Act.put, aJ, aH, aI]
              refine tg 25 103 ?_; refine tk 26 104 ?_; refine wpAnyH_done (by kernel_rfl) ?_ _
              refine hnorm _ _ ?_; clear hnorm hpan; repeat clear hHeld
              try simp only [Exit.then]
              have hRq := ae (hRe.out.below hb6); have hTq := ae (hTe.out.below hb6); have hbq := ae (show Below w1.heap.size w1 w6 from hb1e.out.trans (hb6.mono hb1e.out.size))
              have hrwq := ae ((hrwe.out.below hb6).mono hb6.size); clear p0 p1 p2 p3 hcall; by_cases hn0 : nx ≥ 0
              · replace hk1 := ae (hk1.out hn0)
                clear hk0; obtain ⟨wd, hwd⟩ := ag w6.drew; have hb6d : Below w6.heap.size w6 wd := by rw [hwd]; exact (Below.refl _ _).drew
                have hRd := ae (hRq.out.below hb6d); have hTd := ae (hTq.out.below hb6d); have hb1d := ae (show Below w1.heap.size w1 wd from hbq.out.trans (hb6d.mono hbq.out.size))
                have kwd : wd.cell? ⟨bt, ot + t, none⟩ = some (.int .i64 l) := af f3 hb6d (Nat.lt_of_lt_of_le hbt hb6.size); have hWDl : WD.length ≤ 4 := by have := hgw.out.1; simp only at this; omega
                have hrW := ae ((hrwq.out.below hb6d).mono hb6d.size); have hbt6 : bt < wd.heap.size := Nat.lt_of_lt_of_le hbt (Nat.le_trans hb6.size hb6d.size); have hbwd : Below wd.heap.size wd wd := Below.refl _ _; replace hwd := ae hwd; replace hb6d := ae hb6d; replace hb6 := ae hb6; obtain ⟨hbt9, hbt⟩ : ∃ z : bt < wd.heap.size, bt < wd.heap.size := ⟨hbt6, hbt6⟩; clear hbt9 hbt6; go_upto_region 21 with fail
                refine bV (fun _ _ d _ _ h => by cases d <;> exact h) (fun Q' hnorm hpan => ?_)
                refine wp_region_held_drew (S := (fun z => z.cell? ⟨bt, ot + t, none⟩ = some (.int .i64 l))) (by kernel_rfl) ?_ (fun hHeld => ?_)
                · try dsimp only
                  rw [← hwd.out]; exact kwd
                rw [← hwd.out] at hHeld ⊢; refine tk 0 105 ?_; refine tk 2 107 ?_; refine tk 4 109 ?_; refine tk 5 110 ?_; refine tk 6 111 ?_; refine tk 7 112 ?_; refine wpAnyH_ready (rs := [1, 8]) (by kernel_rfl) (by simp) ?_
                refine AllReadyH.cons rfl (fun K hK => ?_) ?_
                ·
                 rw [if_pos (by rfl)]
                 go_simp; obtain ⟨v1x0, hv1x0⟩ := ag (wd.alloc (.cells #[] 3)); have hbv1x0 : Below wd.heap.size wd v1x0 := by rw [hv1x0]; exact hbwd.alloc hbwd.size _
                 have hsv1x0 := ae (show v1x0.heap.size = wd.heap.size + 1 by rw [hv1x0]; simp)
                 have hown67 := ae (show ak v1x0 wd.heap.size (.slice (some ⟨wd.heap.size, 0, none⟩) 0 0) [] by rw [hv1x0]; exact (ak.lit wd).mono hbwd.size)
                 rw [← hv1x0]; replace hv1x0 := ae hv1x0; have kv1x0 := af kwd hbv1x0 hbt; refine hK.out _ _ ?_ (fun hHeld => ?_)
                 · try dsimp only
                   exact kv1x0
                 clear hK; try simp only [Act.put, aJ, aH, aI]
                 refine wpAnyH_ready (rs := [3, 8]) (by kernel_rfl) (by simp) ?_
                 refine AllReadyH.cons rfl (fun K hK => ?_) ?_
                 ·
                  rw [if_pos (by rfl)]
                  refine dw _ _ rfl wd.heap.size _ _ [] WD wd.heap.size rfl rfl hown67.out (hrW.out.below hbv1x0) (by simp; omega) hbv1x0.size ?_
                  intro v75 v3x1 hown75 hg75 hl75; replace hg75 : World.grownBy v1x0 v3x1 (Value.ownBlock (.slice (some ⟨wd.heap.size, 0, none⟩) 0 0)) := hg75; rw [List.nil_append] at hown75; obtain ⟨a75, m75, c75, rfl⟩ : ∃ a m c, v75 = Value.slice a m c := by
                   obtain ⟨_, ⟨h1, _⟩ | ⟨g, cap, cur, h1, _⟩⟩ := hown75 <;> exact ⟨_, _, _, h1⟩
                  have hbv3x1 : Below wd.heap.size wd v3x1 := hbv1x0.grown hg75 hbv1x0.size (fun q hq => by have h2 : wd.heap.size = q := (by simpa [Value.ownBlock] using hq); have := hbwd.size; omega)
                  have hsv3x1 := ae hg75.size; replace hown75 := ae hown75; clear hg75 hl75; have kv3x1 := af kwd hbv3x1 hbt; refine hK.out _ _ ?_ (fun hHeld => ?_)
                  · try dsimp only
                    exact kv3x1
                  clear hK; try simp only [Act.put, aJ, aH, aI]
                  refine rd 8 (fun K hK => ?_)
                  rw [if_pos (by rfl)]
                  go_simp; obtain ⟨v8x2, hv8x2⟩ := ag (v3x1.alloc (.cells #[.int .i64 l] 3)); have hbv8x2 : Below wd.heap.size wd v8x2 := by rw [hv8x2]; exact hbv3x1.alloc hbv3x1.size _
                  have hsv8x2 := ae (show v8x2.heap.size = v3x1.heap.size + 1 by rw [hv8x2]; simp)
                  have h80 := ae (show v8x2.heap[v3x1.heap.size]? = some (.cells #[.int .i64 l] 3 (0, 0)) by rw [hv8x2]; exact heap_alloc_new _ _)
                  replace hown75 := ae (show ak v8x2 wd.heap.size (.slice a75 m75 c75) WD by rw [hv8x2]; exact World.ownsRow.alloc hown75.out _)
                  rw [← hv8x2]; replace hv8x2 := ae hv8x2; have kv8x2 := af kwd hbv8x2 hbt; refine hK.out _ _ ?_ (fun hHeld => ?_)
                  · try dsimp only
                    exact kv8x2
                  clear hK; try simp only [Act.put, aJ, aH, aI]
                  refine rd 9 (fun K hK => ?_)
                  rw [if_pos (by rfl)]
                  have hr80 : bD v8x2.heap.size v8x2 (.slice (some ⟨v3x1.heap.size, 0, none⟩) 1 1) [l] := ⟨by simp, _, _, rfl, ⟨(fun e => by cases e), nl _⟩, .inr ⟨_, 0, rfl, (Array.getElem?_eq_some_iff.1 h80.out).1, fun z hz => by
                   have hz0 : z = 0 := by simpa using hz
                   subst hz0; rw [cell_of_heap h80.out]; rfl⟩⟩
                  refine dw _ _ rfl wd.heap.size _ _ WD [l] v8x2.heap.size rfl rfl hown75.out hr80 (by simp; omega) hbv8x2.size ?_
                  intro v81 v9x3 hown114 hg81 hl81; replace hg81 : World.grownBy v8x2 v9x3 (Value.ownBlock (.slice a75 m75 c75)) := hg81; obtain ⟨a114, m114, c114, rfl⟩ : ∃ a m c, v81 = Value.slice a m c := by
                   obtain ⟨_, ⟨h1, _⟩ | ⟨g, cap, cur, h1, _⟩⟩ := hown114 <;> exact ⟨_, _, _, h1⟩
                  have hbv9x3 : Below wd.heap.size wd v9x3 := hbv8x2.grown hg81 hbv8x2.size (fun q hq => (World.ownsRow.lt hown75.out q hq).1)
                  replace hown114 := ae hown114; clear hg81 hl81 hr80; have kv9x3 := af kwd hbv9x3 hbt; refine hK.out _ _ ?_ (fun hHeld => ?_)
                  · try dsimp only
                    exact kv9x3
                  clear hK; try simp only [Act.put, aJ, aH, aI]
                  refine rd 10 (fun K hK => ?_)
                  rw [if_pos (by rfl)]
                  go_simp; have kx : (v9x3.alloc (.cells #[.slice a114 m114 c114] 33)).cell? ⟨bt, ot + t, none⟩ = some (.int .i64 l) := af kv9x3 ((Below.refl _ _).alloc (nl _) _) (Nat.lt_of_lt_of_le hbt hbv9x3.size); refine hK.out _ _ ?_ (fun hHeld => ?_)
                  · try dsimp only
                    exact kx
                  clear hK; try simp only [Act.put, aJ, aH, aI]
                  refine rd 11 (fun K hK => ?_)
                  rw [if_pos (by rfl)]
                  have hR9 := hRd.out.below hbv9x3; have hownN := ae hR9.1.2.1.1; have hrow9 := ak.row hown114.out (by rw [List.length_append]; simp; omega)
                  refine iY _ _ rfl w1.heap.size (.slice an mn cn) (N.map (·.1)) a114 m114 c114 rfl rfl hownN.out (by rw [List.length_map]; omega) (by have := hbv9x3.size; have := hb1d.out.size; omega) ?_
                  intro v116 w11 hown11 hg11 hloc11; replace hg11 : (v9x3.alloc (.cells #[.slice a114 m114 c114] 33)).grownBy w11 (Value.ownBlock (.slice an mn cn)) := hg11; replace hloc11 : v116.ownBlock = Value.ownBlock (.slice an mn cn) ∨ v116.ownBlock = some (v9x3.heap.size + 1) := hloc11; obtain ⟨a116, m116, c116, rfl⟩ : ∃ a m c, v116 = Value.slice a m c := by
                   obtain ⟨_, ⟨h1, _⟩ | ⟨g, cap, cur, h1, _⟩⟩ := hown11 <;> exact ⟨_, _, _, h1⟩
                  have hR11 := dO.next (k := (WD ++ [l], nx)) hRd.out hb1d.out.size hbv9x3 hrow9 hg11 hloc11 hown11; have hT11 := dn.next hTd.out hbv9x3 hg11 hloc11; have hsz11 : v9x3.heap.size + 1 ≤ w11.heap.size := by have := hg11.size; simpa using this
                  have k11 : w11.cell? ⟨bt, ot + t, none⟩ = some (.int .i64 l) := (World.cell?_of_block (w := v9x3) (by show w11.heap[bt]? = v9x3.heap[bt]?; rw [hg11.block bt (by have := hbv9x3.size; simp; omega) (fun e => hTd.out.2.2 bt e.symm (by rw [hvt.out]; rfl)), heap_alloc_old _ _ (by have := hbv9x3.size; omega)])).trans kv9x3
                  have hb11 := ae (show Below w1.heap.size w1 w11 from by
                   have z := hb1d.out.trans (hbv9x3.mono hb1d.out.size); exact (z.alloc z.size _).grown hg11 (by have := z.size; simp; omega) (fun q hq => (World.ownsRow.lt hownN.out q hq).1))
                  clear hown11 hg11 hloc11 kx; refine hK.out _ _ ?_ (fun hHeld => ?_)
                  · try dsimp only
                    exact k11
                  clear hK; try simp only [Act.put, aJ, aH, aI]
                  refine tk 12 11 ?_; refine wpAnyH_done (by kernel_rfl) ?_ _
                  refine hnorm _ _ ?_; clear hnorm hpan; repeat clear hHeld
                  try simp only [Exit.then]
                  have hN9 := ae (show ∃ N : List (Value × Wa), N.map (·.2) = NB ++ (LS.take (t + 1)).flatMap (dX es (WD, y)) ∧ dO w11 w1.heap.size vo O (.slice a116 m116 c116) N vl L ∧ dn w11 w1.heap.size vo (.slice a116 m116 c116) vt LS from ⟨_, by rw [List.map_append, hSn.out, hk1.out, hN1.out, List.append_assoc]; rfl, hR11, hT11⟩)
                  clear hR11 hT11 hR9 hrow9; go_wp2; go_roundg (M - (t + 1))
                  case rel => exact ⟨t + 1, by have := ht.out; omega, by go_num, hN9, hb11⟩
                  case measure => have := ht.out; omega
                 refine AllReadyH.cons rfl (fun K hK => ?_) AllReadyH.nil
                 rw [if_pos (by rfl)]
                 go_simp; obtain ⟨v8x1, hv8x1⟩ := ag (v1x0.alloc (.cells #[.int .i64 l] 3)); have hbv8x1 : Below wd.heap.size wd v8x1 := by rw [hv8x1]; exact hbv1x0.alloc hbv1x0.size _
                 have hsv8x1 := ae (show v8x1.heap.size = v1x0.heap.size + 1 by rw [hv8x1]; simp)
                 have h80 := ae (show v8x1.heap[v1x0.heap.size]? = some (.cells #[.int .i64 l] 3 (0, 0)) by rw [hv8x1]; exact heap_alloc_new _ _)
                 replace hown67 := ae (show ak v8x1 wd.heap.size _ [] by rw [hv8x1]; exact World.ownsRow.alloc hown67.out _)
                 rw [← hv8x1]; replace hv8x1 := ae hv8x1; have kv8x1 := af kwd hbv8x1 hbt; refine hK.out _ _ ?_ (fun hHeld => ?_)
                 · try dsimp only
                   exact kv8x1
                 clear hK; try simp only [Act.put, aJ, aH, aI]
                 refine rd 3 (fun K hK => ?_)
                 rw [if_pos (by rfl)]
                 refine dw _ _ rfl wd.heap.size _ _ [] WD wd.heap.size rfl rfl hown67.out (hrW.out.below hbv8x1) (by simp; omega) hbv8x1.size ?_
                 intro v75 v3x2 hown75 hg75 hl75; replace hg75 : World.grownBy v8x1 v3x2 (Value.ownBlock (.slice (some ⟨wd.heap.size, 0, none⟩) 0 0)) := hg75; rw [List.nil_append] at hown75; obtain ⟨a75, m75, c75, rfl⟩ : ∃ a m c, v75 = Value.slice a m c := by
                  obtain ⟨_, ⟨h1, _⟩ | ⟨g, cap, cur, h1, _⟩⟩ := hown75 <;> exact ⟨_, _, _, h1⟩
                 have hbv3x2 : Below wd.heap.size wd v3x2 := hbv8x1.grown hg75 hbv8x1.size (fun q hq => by have h2 : wd.heap.size = q := (by simpa [Value.ownBlock] using hq); have := hbwd.size; omega)
                 have hsv3x2 := ae hg75.size; replace h80 := ae (show v3x2.heap[v1x0.heap.size]? = some (.cells #[.int .i64 l] 3 (0, 0)) by rw [hg75.block _ (by have := hsv1x0.out; have := hsv8x1.out; have := hsv3x2.out;  omega) (by simp [Value.ownBlock]; have := hsv1x0.out; have := hsv8x1.out; have := hsv3x2.out;  omega)]; exact h80.out)
                 replace hown75 := ae hown75; clear hg75 hl75; have kv3x2 := af kwd hbv3x2 hbt; refine hK.out _ _ ?_ (fun hHeld => ?_)
                 · try dsimp only
                   exact kv3x2
                 clear hK; try simp only [Act.put, aJ, aH, aI]
                 refine rd 9 (fun K hK => ?_)
                 rw [if_pos (by rfl)]
                 have hr80 : bD v3x2.heap.size v3x2 (.slice (some ⟨v1x0.heap.size, 0, none⟩) 1 1) [l] := ⟨by simp, _, _, rfl, ⟨(fun e => by cases e), nl _⟩, .inr ⟨_, 0, rfl, (Array.getElem?_eq_some_iff.1 h80.out).1, fun z hz => by
                  have hz0 : z = 0 := by simpa using hz
                  subst hz0; rw [cell_of_heap h80.out]; rfl⟩⟩
                 refine dw _ _ rfl wd.heap.size _ _ WD [l] v3x2.heap.size rfl rfl hown75.out hr80 (by simp; omega) hbv3x2.size ?_
                 intro v81 v9x3 hown114 hg81 hl81; replace hg81 : World.grownBy v3x2 v9x3 (Value.ownBlock (.slice a75 m75 c75)) := hg81; obtain ⟨a114, m114, c114, rfl⟩ : ∃ a m c, v81 = Value.slice a m c := by
                  obtain ⟨_, ⟨h1, _⟩ | ⟨g, cap, cur, h1, _⟩⟩ := hown114 <;> exact ⟨_, _, _, h1⟩
                 have hbv9x3 : Below wd.heap.size wd v9x3 := hbv3x2.grown hg81 hbv3x2.size (fun q hq => (World.ownsRow.lt hown75.out q hq).1)
                 replace hown114 := ae hown114; clear hg81 hl81 hr80; have kv9x3 := af kwd hbv9x3 hbt; refine hK.out _ _ ?_ (fun hHeld => ?_)
                 · try dsimp only
                   exact kv9x3
                 clear hK; try simp only [Act.put, aJ, aH, aI]
                 refine rd 10 (fun K hK => ?_)
                 rw [if_pos (by rfl)]
                 go_simp; have kx : (v9x3.alloc (.cells #[.slice a114 m114 c114] 33)).cell? ⟨bt, ot + t, none⟩ = some (.int .i64 l) := af kv9x3 ((Below.refl _ _).alloc (nl _) _) (Nat.lt_of_lt_of_le hbt hbv9x3.size); refine hK.out _ _ ?_ (fun hHeld => ?_)
                 · try dsimp only
                   exact kx
                 clear hK; try simp only [Act.put, aJ, aH, aI]
                 refine rd 11 (fun K hK => ?_)
                 rw [if_pos (by rfl)]
                 have hR9 := hRd.out.below hbv9x3; have hownN := ae hR9.1.2.1.1; have hrow9 := ak.row hown114.out (by rw [List.length_append]; simp; omega)
                 refine iY _ _ rfl w1.heap.size (.slice an mn cn) (N.map (·.1)) a114 m114 c114 rfl rfl hownN.out (by rw [List.length_map]; omega) (by have := hbv9x3.size; have := hb1d.out.size; omega) ?_
                 intro v116 w11 hown11 hg11 hloc11; replace hg11 : (v9x3.alloc (.cells #[.slice a114 m114 c114] 33)).grownBy w11 (Value.ownBlock (.slice an mn cn)) := hg11; replace hloc11 : v116.ownBlock = Value.ownBlock (.slice an mn cn) ∨ v116.ownBlock = some (v9x3.heap.size + 1) := hloc11; obtain ⟨a116, m116, c116, rfl⟩ : ∃ a m c, v116 = Value.slice a m c := by
                  obtain ⟨_, ⟨h1, _⟩ | ⟨g, cap, cur, h1, _⟩⟩ := hown11 <;> exact ⟨_, _, _, h1⟩
                 have hR11 := dO.next (k := (WD ++ [l], nx)) hRd.out hb1d.out.size hbv9x3 hrow9 hg11 hloc11 hown11; have hT11 := dn.next hTd.out hbv9x3 hg11 hloc11; have hsz11 : v9x3.heap.size + 1 ≤ w11.heap.size := by have := hg11.size; simpa using this
                 have k11 : w11.cell? ⟨bt, ot + t, none⟩ = some (.int .i64 l) := (World.cell?_of_block (w := v9x3) (by show w11.heap[bt]? = v9x3.heap[bt]?; rw [hg11.block bt (by have := hbv9x3.size; simp; omega) (fun e => hTd.out.2.2 bt e.symm (by rw [hvt.out]; rfl)), heap_alloc_old _ _ (by have := hbv9x3.size; omega)])).trans kv9x3
                 have hb11 := ae (show Below w1.heap.size w1 w11 from by
                  have z := hb1d.out.trans (hbv9x3.mono hb1d.out.size); exact (z.alloc z.size _).grown hg11 (by have := z.size; simp; omega) (fun q hq => (World.ownsRow.lt hownN.out q hq).1))
                 clear hown11 hg11 hloc11 kx; refine hK.out _ _ ?_ (fun hHeld => ?_)
                 · try dsimp only
                   exact k11
                 clear hK; try simp only [Act.put, aJ, aH, aI]
                 refine tk 12 11 ?_; refine wpAnyH_done (by kernel_rfl) ?_ _
                 refine hnorm _ _ ?_; clear hnorm hpan; repeat clear hHeld
                 try simp only [Exit.then]
                 have hN9 := ae (show ∃ N : List (Value × Wa), N.map (·.2) = NB ++ (LS.take (t + 1)).flatMap (dX es (WD, y)) ∧ dO w11 w1.heap.size vo O (.slice a116 m116 c116) N vl L ∧ dn w11 w1.heap.size vo (.slice a116 m116 c116) vt LS from ⟨_, by rw [List.map_append, hSn.out, hk1.out, hN1.out, List.append_assoc]; rfl, hR11, hT11⟩)
                 clear hR11 hT11 hR9 hrow9; go_wp2; go_roundg (M - (t + 1))
                 case rel => exact ⟨t + 1, by have := ht.out; omega, by go_num, hN9, hb11⟩
                 case measure => have := ht.out; omega
                refine AllReadyH.cons rfl (fun K hK => ?_) AllReadyH.nil
                rw [if_pos (by rfl)]
                go_simp; obtain ⟨v8x0, hv8x0⟩ := ag (wd.alloc (.cells #[.int .i64 l] 3)); have hbv8x0 : Below wd.heap.size wd v8x0 := by rw [hv8x0]; exact hbwd.alloc hbwd.size _
                have hsv8x0 := ae (show v8x0.heap.size = wd.heap.size + 1 by rw [hv8x0]; simp)
                have h80 := ae (show v8x0.heap[wd.heap.size]? = some (.cells #[.int .i64 l] 3 (0, 0)) by rw [hv8x0]; exact heap_alloc_new _ _)
                rw [← hv8x0]; replace hv8x0 := ae hv8x0; have kv8x0 := af kwd hbv8x0 hbt; refine hK.out _ _ ?_ (fun hHeld => ?_)
                · try dsimp only
                  exact kv8x0
                clear hK; try simp only [Act.put, aJ, aH, aI]
                refine rd 1 (fun K hK => ?_)
                rw [if_pos (by rfl)]
                go_simp; obtain ⟨v1x1, hv1x1⟩ := ag (v8x0.alloc (.cells #[] 3)); have hbv1x1 : Below wd.heap.size wd v1x1 := by rw [hv1x1]; exact hbv8x0.alloc hbv8x0.size _
                have hsv1x1 := ae (show v1x1.heap.size = v8x0.heap.size + 1 by rw [hv1x1]; simp)
                have hown67 := ae (show ak v1x1 wd.heap.size (.slice (some ⟨v8x0.heap.size, 0, none⟩) 0 0) [] by rw [hv1x1]; exact (ak.lit v8x0).mono hbv8x0.size)
                have h80v1x1 := ae (show v1x1.heap[wd.heap.size]? = some (.cells #[.int .i64 l] 3 (0, 0)) by rw [hv1x1, heap_alloc_old _ _ (by have := hsv8x0.out; have := hsv1x1.out;  omega)]; exact h80.out)
                replace h80 := h80v1x1; rw [← hv1x1]; replace hv1x1 := ae hv1x1; have kv1x1 := af kwd hbv1x1 hbt; refine hK.out _ _ ?_ (fun hHeld => ?_)
                · try dsimp only
                  exact kv1x1
                clear hK; try simp only [Act.put, aJ, aH, aI]
                refine rd 3 (fun K hK => ?_)
                rw [if_pos (by rfl)]
                refine dw _ _ rfl wd.heap.size _ _ [] WD wd.heap.size rfl rfl hown67.out (hrW.out.below hbv1x1) (by simp; omega) hbv1x1.size ?_
                intro v75 v3x2 hown75 hg75 hl75; replace hg75 : World.grownBy v1x1 v3x2 (Value.ownBlock (.slice (some ⟨v8x0.heap.size, 0, none⟩) 0 0)) := hg75; rw [List.nil_append] at hown75; obtain ⟨a75, m75, c75, rfl⟩ : ∃ a m c, v75 = Value.slice a m c := by
                 obtain ⟨_, ⟨h1, _⟩ | ⟨g, cap, cur, h1, _⟩⟩ := hown75 <;> exact ⟨_, _, _, h1⟩
                have hbv3x2 : Below wd.heap.size wd v3x2 := hbv1x1.grown hg75 hbv1x1.size (fun q hq => by have h2 : v8x0.heap.size = q := (by simpa [Value.ownBlock] using hq); have := hbv8x0.size; omega)
                have hsv3x2 := ae hg75.size; replace h80 := ae (show v3x2.heap[wd.heap.size]? = some (.cells #[.int .i64 l] 3 (0, 0)) by rw [hg75.block _ (by have := hsv8x0.out; have := hsv1x1.out; have := hsv3x2.out;  omega) (by simp [Value.ownBlock]; have := hsv8x0.out; have := hsv1x1.out; have := hsv3x2.out;  omega)]; exact h80.out)
                replace hown75 := ae hown75; clear hg75 hl75; have kv3x2 := af kwd hbv3x2 hbt; refine hK.out _ _ ?_ (fun hHeld => ?_)
                · try dsimp only
                  exact kv3x2
                clear hK; try simp only [Act.put, aJ, aH, aI]
                refine rd 9 (fun K hK => ?_)
                rw [if_pos (by rfl)]
                have hr80 : bD v3x2.heap.size v3x2 (.slice (some ⟨wd.heap.size, 0, none⟩) 1 1) [l] := ⟨by simp, _, _, rfl, ⟨(fun e => by cases e), nl _⟩, .inr ⟨_, 0, rfl, (Array.getElem?_eq_some_iff.1 h80.out).1, fun z hz => by
                 have hz0 : z = 0 := by simpa using hz
                 subst hz0; rw [cell_of_heap h80.out]; rfl⟩⟩
                refine dw _ _ rfl wd.heap.size _ _ WD [l] v3x2.heap.size rfl rfl hown75.out hr80 (by simp; omega) hbv3x2.size ?_
                intro v81 v9x3 hown114 hg81 hl81; replace hg81 : World.grownBy v3x2 v9x3 (Value.ownBlock (.slice a75 m75 c75)) := hg81; obtain ⟨a114, m114, c114, rfl⟩ : ∃ a m c, v81 = Value.slice a m c := by
                 obtain ⟨_, ⟨h1, _⟩ | ⟨g, cap, cur, h1, _⟩⟩ := hown114 <;> exact ⟨_, _, _, h1⟩
                have hbv9x3 : Below wd.heap.size wd v9x3 := hbv3x2.grown hg81 hbv3x2.size (fun q hq => (World.ownsRow.lt hown75.out q hq).1)
                replace hown114 := ae hown114; clear hg81 hl81 hr80; have kv9x3 := af kwd hbv9x3 hbt; refine hK.out _ _ ?_ (fun hHeld => ?_)
                · try dsimp only
                  exact kv9x3
                clear hK; try simp only [Act.put, aJ, aH, aI]
                refine rd 10 (fun K hK => ?_)
                rw [if_pos (by rfl)]
                go_simp; have kx : (v9x3.alloc (.cells #[.slice a114 m114 c114] 33)).cell? ⟨bt, ot + t, none⟩ = some (.int .i64 l) := af kv9x3 ((Below.refl _ _).alloc (nl _) _) (Nat.lt_of_lt_of_le hbt hbv9x3.size); refine hK.out _ _ ?_ (fun hHeld => ?_)
                · try dsimp only
                  exact kx
                clear hK; try simp only [Act.put, aJ, aH, aI]
                refine rd 11 (fun K hK => ?_)
                rw [if_pos (by rfl)]
                have hR9 := hRd.out.below hbv9x3; have hownN := ae hR9.1.2.1.1; have hrow9 := ak.row hown114.out (by rw [List.length_append]; simp; omega)
                refine iY _ _ rfl w1.heap.size (.slice an mn cn) (N.map (·.1)) a114 m114 c114 rfl rfl hownN.out (by rw [List.length_map]; omega) (by have := hbv9x3.size; have := hb1d.out.size; omega) ?_
                intro v116 w11 hown11 hg11 hloc11; replace hg11 : (v9x3.alloc (.cells #[.slice a114 m114 c114] 33)).grownBy w11 (Value.ownBlock (.slice an mn cn)) := hg11; replace hloc11 : v116.ownBlock = Value.ownBlock (.slice an mn cn) ∨ v116.ownBlock = some (v9x3.heap.size + 1) := hloc11; obtain ⟨a116, m116, c116, rfl⟩ : ∃ a m c, v116 = Value.slice a m c := by
                 obtain ⟨_, ⟨h1, _⟩ | ⟨g, cap, cur, h1, _⟩⟩ := hown11 <;> exact ⟨_, _, _, h1⟩
                have hR11 := dO.next (k := (WD ++ [l], nx)) hRd.out hb1d.out.size hbv9x3 hrow9 hg11 hloc11 hown11; have hT11 := dn.next hTd.out hbv9x3 hg11 hloc11; have hsz11 : v9x3.heap.size + 1 ≤ w11.heap.size := by have := hg11.size; simpa using this
                have k11 : w11.cell? ⟨bt, ot + t, none⟩ = some (.int .i64 l) := (World.cell?_of_block (w := v9x3) (by show w11.heap[bt]? = v9x3.heap[bt]?; rw [hg11.block bt (by have := hbv9x3.size; simp; omega) (fun e => hTd.out.2.2 bt e.symm (by rw [hvt.out]; rfl)), heap_alloc_old _ _ (by have := hbv9x3.size; omega)])).trans kv9x3
                have hb11 := ae (show Below w1.heap.size w1 w11 from by
                 have z := hb1d.out.trans (hbv9x3.mono hb1d.out.size); exact (z.alloc z.size _).grown hg11 (by have := z.size; simp; omega) (fun q hq => (World.ownsRow.lt hownN.out q hq).1))
                clear hown11 hg11 hloc11 kx; refine hK.out _ _ ?_ (fun hHeld => ?_)
                · try dsimp only
                  exact k11
                clear hK; try simp only [Act.put, aJ, aH, aI]
                refine tk 12 11 ?_; refine wpAnyH_done (by kernel_rfl) ?_ _
                refine hnorm _ _ ?_; clear hnorm hpan; repeat clear hHeld
                try simp only [Exit.then]
                have hN9 := ae (show ∃ N : List (Value × Wa), N.map (·.2) = NB ++ (LS.take (t + 1)).flatMap (dX es (WD, y)) ∧ dO w11 w1.heap.size vo O (.slice a116 m116 c116) N vl L ∧ dn w11 w1.heap.size vo (.slice a116 m116 c116) vt LS from ⟨_, by rw [List.map_append, hSn.out, hk1.out, hN1.out, List.append_assoc]; rfl, hR11, hT11⟩)
                clear hR11 hT11 hR9 hrow9; go_wp2; go_roundg (M - (t + 1))
                case rel => exact ⟨t + 1, by have := ht.out; omega, by go_num, hN9, hb11⟩
                case measure => have := ht.out; omega
              · replace hk0 := ae (hk0.out hn0)
                clear hk1; have hN9 := ae (show ∃ N : List (Value × Wa), N.map (·.2) = NB ++ (LS.take (t + 1)).flatMap (dX es (WD, y)) ∧ dO w6 w1.heap.size vo O (.slice an mn cn) N vl L ∧ dn w6 w1.heap.size vo (.slice an mn cn) vt LS from ⟨N, by rw [hSn.out, hk0.out, List.append_nil]; exact hN1.out, hRq.out, hTq.out⟩)
                go_wp2; go_roundg (M - (t + 1))
                case rel => exact ⟨t + 1, by have := ht.out; omega, by go_num, hN9, hbq⟩
                case measure => have := ht.out; omega
        · have hti : ¬ (t : Int) < (M : Int) := by omega
          have hfull : LS.take t = LS := List.take_of_length_le (by have := hM.out; omega)
          rw [hfull] at hN1; have hO99 := ae (show ∃ O N : List (Value × Wa), O.map (·.2) = OB ++ (LY.take (j + 1)).filter (fun p => p.2 == x) ∧ N.map (·.2) = (LY.take (j + 1)).flatMap (kids es LS) ∧ dO wr w1.heap.size (.slice a7 m7 c7) O (.slice an mn cn) N (.slice (some ⟨g8, 0, none⟩) ML c8) L ∧ dn wr w1.heap.size (.slice a7 m7 c7) (.slice an mn cn) vt LS from
           ⟨O, N, hO9.out, by rw [hkf.out, ← hNB.out]; exact hN1, by rw [← hvo.out, ← hvl.out]; exact hR, by rw [← hvo.out]; exact hT⟩)
          replace hN1 := ae hN1; replace hfull := ae hfull; replace hR := ae hR; replace hT := ae hT; replace ht := ae ht; replace hPP3 := ae hPP3; go_wp2; go_roundg (ML - (j + 1))
          case rel => exact ⟨j + 1, by have := hj.out; omega, by go_num, hO99, hb3⟩
          case measure => have := hj.out; omega
     · have hji : ¬ (j : Int) < (ML : Int) := by omega
       have hfull : LY.take j = LY := List.take_of_length_le (by have := hMLY.out; omega)
       rw [hfull] at hO2 hN2; have hO9 := ae (show ∃ O L : List (Value × Wa), O.map (·.2) = (jB es LS x (k + 1)).filter (fun p => p.2 == x) ∧ L.map (·.2) = dC es LS x (k + 1) ∧ fM wr w1.heap.size (.slice a7 m7 c7) O ∧ fM wr w1.heap.size (.slice an mn cn) L ∧ jZ (.slice a7 m7 c7) (.slice an mn cn) L ∧ dn wr w1.heap.size (.slice a7 m7 c7) (.slice an mn cn) vt LS from
        ⟨O, N, by rw [hOn.out]; exact hO2, by rw [hnext.out]; exact hN2, hR.1.1, hR.1.2.1, hR.2.1.1, hT⟩)
       replace hO2 := ae hO2; replace hN2 := ae hN2; replace hfull := ae hfull; replace hR := ae hR; replace hT := ae hT; replace hj := ae hj; go_wp2; go_roundg (mN + 1 - (k + 1))
       case rel => exact ⟨k + 1, by have := hk.out; omega, by go_num, hO9, hb2⟩
       case measure => have := hk.out; omega
  · have hki : ¬ (k : Int) ≤ (mN : Int) := by omega
    obtain rfl : k = mN + 1 := by omega
    have hOl : O.length ≤ 1000000000 := by
     have h1 := congrArg List.length hO1; have h2 := hbelow.out (mN + 1) (by omega)
     have h3 := (List.filter_sublist (p := fun p : Wa => p.2 == x) (l := jB es LS x (mN + 1))).length_le
     rw [List.length_map] at h1; omega
    have hrow := hRO.done hOl; have hzz : O.map (·.2.1) = F := by
     rw [hFL.out]; unfold kz; rw [← zF, ← hO1, List.map_map]; rfl
    rw [hzz] at hrow; have hr : yG w F (.returned (.slice a7 m7 c7)) wr := ⟨_, _, rfl, hrow.wide (by omega) (nl _), hb1.trans (hb.out.mono hb1.size)⟩
    replace hr := ae hr; replace hO1 := ae hO1; replace hL1 := ae hL1; replace hzz := ae hzz; replace hrow := ae hrow; replace hRO := ae hRO; replace hRL := ae hRL; replace hA := ae hA; replace hT := ae hT; replace hML := ae hML; go_wp2; go_ret; exact hr.out
end Go.Proofs.YtgnomlcjikfdhaaGreat
