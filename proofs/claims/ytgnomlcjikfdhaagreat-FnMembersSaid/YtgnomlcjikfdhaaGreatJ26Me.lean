import Derived.Test.YtgnomlcjikfdhaaGreatJ23Me
import Derived.Test.YtgnomlcjikfdhaaGreatJ22Me
import Derived.Test.YtgnomlcjikfdhaaGreatJ17Me
import Derived.Test.YtgnomlcjikfdhaaGreatJ3Me
namespace Go.Proofs.YtgnomlcjikfdhaaGreat
open Go.RowKit
set_option linter.unusedVariables false
set_option linter.unusedSimpArgs false
theorem mF {es : List Ed} {v l y : Int} : fC es v l y ↔ ∃ e ∈ es, (v = e.1 ∧ l = e.2.1 ∧ y = e.2.2) ∨ (v = e.2.2 ∧ l = -e.2.1 ∧ y = e.1) := by
 unfold fC; rw [Be]
theorem fold_iff {es : List Ed} (hn : es.Nodup) : gq es es.length = true ↔ ∀ a ∈ es, ∀ b ∈ es, a ≠ b → ¬ gK a b := by
 rw [lG]; constructor
 · intro h a ha b hb hab hm
   obtain ⟨i, hi, rfl⟩ := List.getElem_of_mem ha; obtain ⟨j, hj, rfl⟩ := List.getElem_of_mem hb
   rcases Nat.lt_trichotomy i j with c | c | c
   · refine h j hj i c ?_
     rw [fB hi, fB hj]; exact ⟨hm.1.symm, hm.2.imp Eq.symm Eq.symm⟩
   · subst c; exact hab rfl
   · refine h i hi j c ?_
     rw [fB hi, fB hj]; exact hm
 · intro h i hi k hk hm
   rw [fB hi, fB (by omega : k < es.length)] at hm
   refine h _ (List.getElem_mem hi) _ (List.getElem_mem (by omega)) (fun e => ?_) hm
   have := (List.pairwise_iff_getElem.1 hn) k i (by omega) hi hk
   exact this e.symm
theorem D7 {es : List Ed} (h : lD es) : es.Nodup := List.Pairwise.imp (fun {a b} hab e => by subst e; rw [lI] at hab; omega) h
theorem jb {r s : Int} {es : List Ed} (h : bJ r s es = true) : aK r s es = true ∧ gq es es.length = true := by unfold bJ at h; rw [Bool.and_eq_true] at h; exact h
theorem xC {r s : Int} {es : List Ed} {zs : List Int} (hf : bJ r s es = true) (h : gy r s es zs = true) : bJ r (zs.length : Int) (dK r s es zs) = true := by
 obtain ⟨hg, hz, hco⟩ := dV.1 h; unfold bJ; rw [qP h, Bool.true_and, fold_iff (D7 (mX h))]; intro a ha b hb hab hm; obtain ⟨a1, a2, a3⟩ := (iP h).1 ha; obtain ⟨b1, b2, b3⟩ := (iP h).1 hb; refine (fold_iff (D7 (lH hg))).1 (jb hf).2 _ a3 _ b3 (fun e => hab ?_) ?_
 · simp only [Prod.mk.injEq] at e
   obtain ⟨e1, e2, e3⟩ := e; have h1 := jm hco.1 (by omega) (by omega) e1
   have h3 := jm hco.1 (by omega) (by omega) e3
   exact Prod.ext (by omega) (Prod.ext e2 (by omega))
 · refine ⟨hm.1, ?_⟩
   rcases hm.2 with h1 | h1
   · left; show zs.getD a.1.toNat 0 = zs.getD b.1.toNat 0; rw [h1]
   · right; show zs.getD a.2.2.toNat 0 = zs.getD b.2.2.toNat 0; rw [h1]
theorem Bv {r s : Int} {es : List Ed} {zs : List Int} (h : gy r s es zs = true) {i j : Nat} {l : Int} (hi : i < zs.length) (hj : j < zs.length) : fC (dK r s es zs) (i : Int) l (j : Int) ↔ fC es (zs.getD i 0) l (zs.getD j 0) := by
 obtain ⟨hg, hz, hco⟩ := dV.1 h; rw [mF, mF]; constructor
 · rintro ⟨e, he, h1⟩
   obtain ⟨a, b, c⟩ := (iP h).1 he; refine ⟨_, c, ?_⟩
   rcases h1 with ⟨x, y, z⟩ | ⟨x, y, z⟩
   · exact .inl ⟨by rw [← x]; simp, y, by rw [← z]; simp⟩
   · exact .inr ⟨by rw [← x]; simp, y, by rw [← z]; simp⟩
 · rintro ⟨e, he, h1⟩
   rcases h1 with ⟨x, y, z⟩ | ⟨x, y, z⟩
   · refine ⟨((i : Int), l, (j : Int)), (iP h).2 ⟨by simp; omega, by simp; omega, ?_⟩, .inl ⟨rfl, rfl, rfl⟩⟩
     simp only [Int.toNat_natCast]; have : (zs.getD i 0, l, zs.getD j 0) = e := Prod.ext x (Prod.ext y z); rw [this]; exact he
   · refine ⟨((j : Int), -l, (i : Int)), (iP h).2 ⟨by simp; omega, by simp; omega, ?_⟩, .inr ⟨rfl, by simp, rfl⟩⟩
     simp only [Int.toNat_natCast]; have : (zs.getD j 0, -l, zs.getD i 0) = e := Prod.ext z (Prod.ext (by show -l = e.2.1; omega) x)
     rw [this]; exact he
theorem L6 {r s : Int} {es : List Ed} {zs : List Int} (hf : bJ r s es = true) (h : gy r s es zs = true) {i : Nat} {l : Int} (hl : -3 ≤ l ∧ l ≤ 3) (hi : i < zs.length)
 (hcl : 0 ≤ aV es (zs.getD i 0) l → aV es (zs.getD i 0) l ∈ zs) :
 (∃ k, k < zs.length ∧ aV es (zs.getD i 0) l = zs.getD k 0 ∧ 0 ≤ zs.getD k 0 ∧ aV (dK r s es zs) (i : Int) l = (k : Int)) ∨ (aV es (zs.getD i 0) l < 0 ∧ aV (dK r s es zs) (i : Int) l < 0) := by
 obtain ⟨hg, hz, hco⟩ := dV.1 h; have hf2 := xC hf h; obtain ⟨g1, g2⟩ := jb hf; obtain ⟨g3, g4⟩ := jb hf2
 rcases oZ g1 g2 (v := zs.getD i 0) (l := l) (by omega) with ⟨h1, h2, h3⟩ | ⟨h1, h2⟩
 · obtain ⟨k, hk, e⟩ := bI.1 (hcl h2)
   left
   rw [← e] at h1; exact ⟨k, hk, e.symm, by omega, xm g3 g4 ((Bv h hi hk).2 h1)⟩
 · right
   refine ⟨by omega, ?_⟩
   rw [Ew g3 (by omega) (fun y hy => ?_)]
   · omega
   · have hv := jL g3 hy
     have : y = ((y.toNat : Nat) : Int) := by omega
     rw [this] at hy; exact h2 _ ((Bv h hi (by omega)).1 hy)
theorem JC (es : List Ed) (u : Int) (out : List Int) (l : Int) : ∃ t, iJ es u out l = out ++ t := by
 unfold iJ; split
 · exact ⟨_, rfl⟩
 · exact ⟨[], (List.append_nil _).symm⟩
theorem vZ (es : List Ed) (u : Int) : ∀ (ls out : List Int), ∃ t, ls.foldl (iJ es u) out = out ++ t := by
 intro ls
 induction ls with
 | nil => intro out; exact ⟨[], (List.append_nil _).symm⟩
 | cons l r ih =>
  intro out; obtain ⟨t1, h1⟩ := JC es u out l; obtain ⟨t2, h2⟩ := ih (iJ es u out l); exact ⟨t1 ++ t2, by rw [List.foldl_cons, h2, h1, List.append_assoc]⟩
theorem qW (es : List Ed) (u : Int) (ls out : List Int) : jI es u ls out ls.length = ls.foldl (iJ es u) out := by unfold jI; rw [List.take_length]
theorem I8 (es : List Ed) (ls : List Int) (i : Nat) : ∃ t, dh es ls (i + 1) = dh es ls i ++ t := by
 show ∃ t, (if i < (dh es ls i).length then jI es ((dh es ls i).getD i 0) ls (dh es ls i) ls.length else dh es ls i) = dh es ls i ++ t
 split
 · rw [qW]; exact vZ es _ ls _
 · exact ⟨[], (List.append_nil _).symm⟩
theorem Lp (es : List Ed) (ls : List Int) (i : Nat) : ∀ j, ∃ t, dh es ls (i + j) = dh es ls i ++ t := by
 intro j
 induction j with
 | zero => exact ⟨[], (List.append_nil _).symm⟩
 | succ j ih =>
  obtain ⟨t, ht⟩ := ih; obtain ⟨t2, h2⟩ := I8 es ls (i + j); exact ⟨t ++ t2, by rw [show i + (j + 1) = i + j + 1 by omega, h2, ht, List.append_assoc]⟩
theorem xP (es : List Ed) (ls : List Int) {i : Nat} (h : i ≤ 40) : ∃ t, dh es ls 40 = dh es ls i ++ t := by
 have := Lp es ls i (40 - i); rw [show i + (40 - i) = 40 by omega] at this
 exact this
theorem Iw {es : List Ed} {u : Int} : ∀ {ls out : List Int} {l : Int}, l ∈ ls → 0 ≤ aV es u l → aV es u l ∈ ls.foldl (iJ es u) out := by
 intro ls
 induction ls with
 | nil => intro out l h; cases h
 | cons x r ih =>
  intro out l h h0; rw [List.foldl_cons]
  rcases List.mem_cons.1 h with rfl | h
  · obtain ⟨t, ht⟩ := vZ es u r (iJ es u out l)
    rw [ht, List.mem_append]; left
    unfold iJ; by_cases hm : aV es u l ∈ out
    · rw [if_neg (fun c => c.2 hm)]; exact hm
    · rw [if_pos ⟨h0, hm⟩]; exact List.mem_append_right _ (List.mem_singleton.2 rfl)
  · exact ih h h0
theorem AZ {a t : List Int} {i : Nat} (h : i < a.length) : (a ++ t).getD i 0 = a.getD i 0 := by
 rw [gD, List.getElem?_append_left h, gD]
theorem xO {s : Nat} {es : List Ed} {ls : List Int} (hl : (dh es ls 40).length ≤ 40) {i : Nat} (hi : i < (dh es ls 40).length) {l : Int} (hm : l ∈ ls) (h0 : 0 ≤ aV es ((dh es ls 40).getD i 0) l) : aV es ((dh es ls 40).getD i 0) l ∈ dh es ls 40 := by
 have hi2 : i < (dh es ls i).length := by
  rcases Nat.lt_or_ge i (dh es ls i).length with c | c
  · exact c
  · exfalso
    have := AC (es := es) (ls := ls) (i := i) c (40 - i); rw [show i + (40 - i) = 40 by omega] at this
    rw [this] at hi; omega
 obtain ⟨t, ht⟩ := xP es ls (i := i) (by omega)
 obtain ⟨t2, ht2⟩ := xP es ls (i := i + 1) (by omega)
 have hg : (dh es ls 40).getD i 0 = (dh es ls i).getD i 0 := by rw [ht, AZ hi2]
 rw [hg] at h0 ⊢; rw [ht2, List.mem_append]; left
 rw [dh, if_pos hi2, qW]; exact Iw hm h0
theorem o9 (es : List Ed) (ls : List Int) : (dh es ls 40).getD 0 0 = 0 ∧ 0 < (dh es ls 40).length := by
 obtain ⟨t, ht⟩ := xP es ls (i := 0) (by omega)
 rw [ht]; constructor
 · rfl
 · rw [List.length_append]; show 0 < 1 + _; omega
theorem vY {r s : Int} {es : List Ed} (hf : bJ r s es = true) : iR s.toNat (dh es (bH r.toNat) 40) ∧ gy r s es (dh es (bH r.toNat) 40) = true ∧ (dh es (bH r.toNat) 40).length ≤ 40 := by
 have hg := (jb hf).1; have hl := aZ hg; have hco := iR.all (eY hg) (by omega) (bH r.toNat) 40
 have hz := (o9 es (bH r.toNat)).2; exact ⟨hco, dV.2 ⟨hg, by omega, hco⟩, by have := hco.len; omega⟩
theorem Je {zs : List Int} {k : Nat} {y : Int} {t : List Int} (h : zs = (zs.take k ++ [y]) ++ t) (hk : k ≤ zs.length) : k < zs.length ∧ zs.getD k 0 = y ∧ zs.take k ++ [y] = zs.take (k + 1) := by
 have hlen := congrArg List.length h; rw [List.length_append, List.length_append, List.length_take, List.length_singleton] at hlen; have hk2 : k < zs.length := by omega
 have hy : zs.getD k 0 = y := by
  have : zs.getD k 0 = ((zs.take k ++ [y]) ++ t).getD k 0 := by rw [← h]
  rw [this, AZ (by simp; omega), gD, List.getElem?_append_right (by simp; omega)]
  simp [Nat.min_eq_left hk]
 refine ⟨hk2, hy, ?_⟩; rw [List.take_add_one, gE hk2, ← hy, gu hk2]; rfl
theorem FD {r s : Int} {es : List Ed} {zs : List Int} (hf : bJ r s es = true) (h : gy r s es zs = true) {i : Nat} (hi : i < zs.length) (LS : List Int)
 (hcl : ∀ l ∈ LS, 0 ≤ aV es (zs.getD i 0) l → aV es (zs.getD i 0) l ∈ zs) (hb : ∀ l ∈ LS, -3 ≤ l ∧ l ≤ 3) :
 ∀ (ls : List Int) (k : Nat) (t : List Int), (∀ l ∈ ls, l ∈ LS) → k ≤ zs.length → zs = ls.foldl (iJ es (zs.getD i 0)) (zs.take k) ++ t →
  ∃ k', k' ≤ zs.length ∧ ls.foldl (iJ es (zs.getD i 0)) (zs.take k) = zs.take k' ∧ ls.foldl (iJ (dK r s es zs) (i : Int)) (gV k) = gV k' := by
 obtain ⟨hg, hz, hco⟩ := dV.1 h; intro ls
 induction ls with
 | nil => intro k t _ hk _; exact ⟨k, hk, rfl, rfl⟩
 | cons l ls ih =>
  intro k t hin hk hpre; have hlm := hin l List.mem_cons_self; rw [List.foldl_cons] at hpre ⊢; rw [List.foldl_cons]
  rcases L6 hf h (hb l hlm) hi (hcl l hlm) with ⟨kk, hkk, e1, e2, e3⟩ | ⟨e1, e2⟩
  · by_cases hm : kk < k
    · have hmem : zs.getD kk 0 ∈ zs.take k := by
       refine bI.2 ⟨kk, by simp; omega, ?_⟩
       rw [gD, List.getElem?_take, if_pos hm, gD]
      have s1 : iJ es (zs.getD i 0) (zs.take k) l = zs.take k := by unfold iJ; rw [e1, if_neg (fun c => c.2 hmem)]
      have s2 : iJ (dK r s es zs) (i : Int) (gV k) l = gV k := by unfold iJ; rw [e3, if_neg (fun c => c.2 (uy.2 (by omega)))]
      rw [s1] at hpre ⊢; rw [s2]; exact ih k t (fun x hx => hin x (List.mem_cons_of_mem _ hx)) hk hpre
    · have hmem : zs.getD kk 0 ∉ zs.take k := fun hc => by
       obtain ⟨q, hq, eq⟩ := bI.1 hc; rw [List.length_take] at hq; have : (zs.take k).getD q 0 = zs.getD q 0 := by rw [gD, List.getElem?_take, if_pos (by omega), gD]
       rw [this] at eq; have := jm hco.1 (by omega) hkk eq
       omega
      have s1 : iJ es (zs.getD i 0) (zs.take k) l = zs.take k ++ [zs.getD kk 0] := by unfold iJ; rw [e1, if_pos ⟨e2, hmem⟩]
      rw [s1] at hpre ⊢; obtain ⟨t2, ht2⟩ := vZ es (zs.getD i 0) ls (zs.take k ++ [zs.getD kk 0]); have hp2 : zs = (zs.take k ++ [zs.getD kk 0]) ++ (t2 ++ t) := by rw [ht2] at hpre; rw [← List.append_assoc]; exact hpre
      obtain ⟨q1, q2, q3⟩ := Je hp2 hk; have hke : kk = k := jm hco.1 hkk q1 q2.symm; subst hke; have s2 : iJ (dK r s es zs) (i : Int) (gV kk) l = gV (kk + 1) := by
       unfold iJ; rw [e3, if_pos ⟨by omega, fun c => by have := uy.1 c; omega⟩]
       simp [gV, List.range_succ]
      rw [q3] at hpre ⊢; rw [s2]; exact ih (kk + 1) t (fun x hx => hin x (List.mem_cons_of_mem _ hx)) (by omega) hpre
  · have s1 : iJ es (zs.getD i 0) (zs.take k) l = zs.take k := by unfold iJ; rw [if_neg (fun c => by omega)]
    have s2 : iJ (dK r s es zs) (i : Int) (gV k) l = gV k := by unfold iJ; rw [if_neg (fun c => by omega)]
    rw [s1] at hpre ⊢; rw [s2]; exact ih k t (fun x hx => hin x (List.mem_cons_of_mem _ hx)) hk hpre
theorem LG {r s : Int} {es : List Ed} (hf : bJ r s es = true) {zs : List Int} (hz : zs = dh es (bH r.toNat) 40) : ∀ i, i ≤ 40 → ∃ k, k ≤ zs.length ∧ dh es (bH r.toNat) i = zs.take k ∧ dh (dK r s es zs) (bH r.toNat) i = gV k := by
 obtain ⟨hco, hok, hl40⟩ := vY hf; have hlim := aZ (jb hf).1; have h0 := o9 es (bH r.toNat); rw [← hz] at hco hok hl40 h0; intro i
 induction i with
 | zero =>
  intro _; refine ⟨1, by omega, ?_, rfl⟩
  rw [List.take_add_one, gE h0.2, ← gu h0.2, h0.1]; rfl
 | succ i ih =>
  intro hi; obtain ⟨k, hk, e1, e2⟩ := ih (by omega)
  obtain ⟨t, ht⟩ := xP es (bH r.toNat) hi; rw [← hz] at ht; unfold dh at ht ⊢; rw [e1] at ht ⊢; rw [e2]; have hlen1 : (zs.take k).length = k := by simp; omega
  rw [hlen1] at ht ⊢; rw [jv]; by_cases hik : i < k
  · rw [if_pos hik] at ht ⊢
    rw [if_pos hik]; have hzi : (zs.take k).getD i 0 = zs.getD i 0 := by rw [gD, List.getElem?_take, if_pos hik, gD]
    rw [hzi, qW] at ht ⊢; rw [nZ hik, qW]; refine FD hf hok (by omega) (bH r.toNat) (fun l hl h => ?_) (fun l hl => by have := oL r.toNat l hl; omega) (bH r.toNat) k t (fun _ h => h) hk ht
    have := xO (s := s.toNat) (es := es) (ls := bH r.toNat) (by rw [← hz]; exact hl40) (i := i) (by rw [← hz]; omega) hl (by rw [← hz]; exact h)
    rw [← hz] at this; exact this
  · rw [if_neg hik, if_neg hik]
    exact ⟨k, hk, rfl, rfl⟩
theorem ww {r s : Int} {es : List Ed} (hf : bJ r s es = true) : gB r (jr r s es) (jk r s es) = gV (gB r s es).length ∧ jr r s es = ((gB r s es).length : Int) ∧ jk r s es = dK r s es (gB r s es) ∧ gy r s es (gB r s es) = true := by
 obtain ⟨hco, hok, hl40⟩ := vY hf; obtain ⟨zs, hz⟩ := ag (dh es (bH r.toNat) 40); have hL : gB r s es = zs := by unfold gB mJ; rw [if_pos hf, hz]
 have h0 := (o9 es (bH r.toNat)).2; rw [← hz] at hok hl40 h0; have hS : jr r s es = (zs.length : Int) := by
  unfold jr; rw [hL, if_neg (by omega), kV, if_pos hok]
 have hE : jk r s es = dK r s es zs := by unfold jk; rw [hL, if_neg (by omega)]
 rw [hL, hS, hE]; refine ⟨?_, rfl, rfl, hok⟩; obtain ⟨k, hk, e1, e2⟩ := LG hf hz 40 (nl _); rw [← hz] at e1; have hkl : k = zs.length := by have := congrArg List.length e1; rw [List.length_take] at this; omega
 subst hkl; have hf2 := xC hf hok; unfold gB mJ; rw [if_pos hf2]; exact e2
theorem Nb {r s : Int} {es : List Ed} (hg : aK r s es = true) : dK r s es (gV s.toNat) = es ∧ gy r s es (gV s.toNat) = true := ⟨(wK hg).ed.symm, (wK hg).sub.ok hg⟩
theorem Df {r s : Int} {es : List Ed} (hg : aK r s es = true) (h : gB r s es = gV s.toNat) : jr r s es = s ∧ jk r s es = es := by
 have hl := aZ hg; obtain ⟨h1, h2⟩ := Nb hg; unfold jr jk; rw [h, jv, if_neg (by omega), if_neg (by omega), h1, kV, if_pos h2, jv]
 exact ⟨by omega, rfl⟩
theorem IP {r s : Int} {es : List Ed} (hf : bJ r s es = false) : jr r s es = s ∧ jk r s es = es := by
 have : gB r s es = [] := by unfold gB mJ; rw [hf]; rfl
 unfold jr jk; rw [this]; exact ⟨rfl, rfl⟩
theorem wM {r s : Int} {es : List Ed} (hf : bJ r s es = true) : bJ r (jr r s es) (jk r s es) = true := by
 obtain ⟨_, h2, h3, h4⟩ := ww hf; rw [h2, h3]; exact xC hf h4
theorem Cm (r s : Int) (es : List Ed) : jr r (jr r s es) (jk r s es) = jr r s es ∧ jk r (jr r s es) (jk r s es) = jk r s es := by
 cases hf : bJ r s es with
 | false =>
  obtain ⟨h1, h2⟩ := IP hf; rw [h1, h2]; exact ⟨h1, h2⟩
 | true =>
  have hf2 := wM hf; obtain ⟨h1, h2, _⟩ := ww hf; refine Df (jb hf2).1 ?_; rw [h1, h2, Int.toNat_natCast]
theorem KN {r s : Int} {es : List Ed} (hg : aK r s es = true) : ∀ v, 1 ≤ v → v < jE r s es → 2 ≤ bQ v (jg r s es) ∧ iD (jg r s es) 0 v := by
 intro v h1 h2; have h := mf hg 40; have he := Hm hg; have hg2 := JV hg; unfold jE jg at *; rw [if_pos hg] at *; rw [if_pos hg] at hg2; have hno := BF _ _ (by omega) he v h1 (by omega)
 have hn2 : ¬ jR r (dW r s es 40).s (dW r s es 40).es v = true := by rw [hno]; simp
 rw [pM hg2] at hn2; constructor
 · omega
 · exact Classical.byContradiction fun hc => hn2 (.inr hc)
theorem Nr {r s : Int} {es : List Ed} (hf : bJ r s es = true) : bJ r (jE r s es) (jg r s es) = true := by
 have hg := (jb hf).1; unfold jE jg; rw [if_pos hg, if_pos hg]; have h := mf hg 40; rw [h.sz, h.ed]; exact xC hf (h.sub.ok hg)
theorem NH {r s : Int} {es : List Ed} (hg : aK r s es = true) (h : ∀ v, 1 ≤ v → v < s → 2 ≤ bQ v es ∧ iD es 0 v) : lf r s es < 0 := by
 rcases EK r s es with c | c
 · omega
 · exfalso
   have := Du (r := r) (s := s) (es := es) (s - 1).toNat 1 (by unfold lf at c; omega)
   change jR r s es (lf r s es) = true at this
   rw [pM hg] at this; have h2 := h _ c.1 c.2
   rcases this with d | d
   · omega
   · exact d h2.2
theorem A7 {k : Nat} {l : Int} (h1 : 1 ≤ l ∨ l ≤ -1) (h2 : -(k : Int) ≤ l ∧ l ≤ k) : l ∈ bH k := by
 induction k with
 | zero => omega
 | succ k ih =>
  rw [bH, List.mem_append]; by_cases c : -(k : Int) ≤ l ∧ l ≤ k
  · exact .inl (ih c)
  · right
    rw [List.mem_cons, List.mem_singleton]; omega
theorem FY {r s : Int} {es : List Ed} (hf : bJ r s es = true) {v : Int} (h : iD es 0 v) : v ∈ gB r s es := by
 have hg := (jb hf).1; have hlim := aZ hg; obtain ⟨hco, hok, hl40⟩ := vY hf; have h0 := o9 es (bH r.toNat); have hL : gB r s es = dh es (bH r.toNat) 40 := by unfold gB mJ; rw [if_pos hf]
 rw [hL]; have hcl := fun i (hi : i < (dh es (bH r.toNat) 40).length) l (hl : l ∈ bH r.toNat) => xO (s := s.toNat) (es := es) (ls := bH r.toNat) hl40 hi hl
 refine h (fun y => y ∈ dh es (bH r.toNat) 40) (bI.2 ⟨0, h0.2, h0.1⟩) fun e he => ?_
 have hm := mQ hg he; constructor
 · intro hy
   obtain ⟨i, hi, ei⟩ := bI.1 hy; have hst : fC es e.1 e.2.1 e.2.2 := mF.2 ⟨e, he, .inl ⟨rfl, rfl, rfl⟩⟩; have hnx := xm hg (jb hf).2 hst; have := hcl i hi e.2.1 (A7 (by omega) (by omega))
   rw [ei, hnx] at this; exact this hm.2.1.1
 · intro hy
   obtain ⟨i, hi, ei⟩ := bI.1 hy; have hst : fC es e.2.2 (-e.2.1) e.1 := mF.2 ⟨e, he, .inr ⟨rfl, rfl, rfl⟩⟩; have hnx := xm hg (jb hf).2 hst; have := hcl i hi (-e.2.1) (A7 (by omega) (by omega))
   rw [ei, hnx] at this; exact this hm.1.1
theorem EI {r s : Int} {es : List Ed} (hf : bJ r s es = true) (h : ∀ v, 1 ≤ v → v < s → 2 ≤ bQ v es ∧ iD es 0 v) : lf r (jr r s es) (jk r s es) < 0 := by
 have hg := (jb hf).1; obtain ⟨_, h2, h3, h4⟩ := ww hf; obtain ⟨_, _, hco⟩ := dV.1 h4; have h0 := o9 es (bH r.toNat); have hL : gB r s es = dh es (bH r.toNat) 40 := by unfold gB mJ; rw [if_pos hf]
 rw [← hL] at h0; have hall : ∀ y, 0 ≤ y → y < s → y ∈ gB r s es := fun y h5 h6 => by
  by_cases c : y = 0
  · rw [c]; exact bI.2 ⟨0, h0.2, h0.1⟩
  · exact FY hf (h y (by omega) h6).2
 have hfil : ji (gB r s es) es = es := by
  unfold ji; rw [List.filter_eq_self]; intro e he; have hm := mQ hg he; exact decide_eq_true ⟨hall _ hm.1.1 hm.1.2, hall _ hm.2.1.1 hm.2.1.2⟩
 refine NH (jb (wM hf)).1 fun v h5 h6 => ?_
 rw [h2] at h6; rw [h3]; obtain ⟨i, rfl⟩ : ∃ i : Nat, v = (i : Int) := ⟨v.toNat, by omega⟩
 have hi : i < (gB r s es).length := by omega
 rw [qI h4 hi, yL h4 hi, hfil, h0.1]; have hr := hco.2 _ (bI.2 ⟨i, hi, rfl⟩); refine h _ ?_ (by omega)
 have hne : (gB r s es).getD i 0 ≠ 0 := fun c => by
  have := jm hco.1 hi h0.2 (by rw [c, h0.1])
  omega
 omega
end Go.Proofs.YtgnomlcjikfdhaaGreat
namespace Go.Proofs.YtgnomlcjikfdhaaGreat
open Go.RowKit
set_option linter.unusedVariables false
set_option linter.unusedSimpArgs false
theorem Lu {es : List Ed} {i : Nat} {f : dB} : ∀ d j, j < d → f ∈ eu (es.getD i e0) (es.getD (i + 1 + j) e0) → f ∈ iF es i d := by
 intro d
 induction d with
 | zero => intro j h; omega
 | succ d ih =>
  intro j hj hf; rw [iF, List.mem_append]; by_cases c : j = d
  · subst c; exact .inr hf
  · exact .inl (ih j (by omega) hf)
theorem Ku {es : List Ed} {i j : Nat} {f : dB} (hij : i < j) (hj : j < es.length) (hf : f ∈ eu (es.getD i e0) (es.getD j e0)) : ∀ n, i < n → f ∈ fO es n := by
 intro n
 induction n with
 | zero => intro h; omega
 | succ n ih =>
  intro h; rw [fO, List.mem_append]; by_cases c : i = n
  · subst c
    exact .inr (Lu _ (j - (i + 1)) (by omega) (by rw [show i + 1 + (j - (i + 1)) = j by omega]; exact hf))
  · exact .inl (ih (by omega))
theorem Jy {es : List Ed} : (bY es).length = 0 ↔ gq es es.length = true := by
 rw [List.length_eq_zero_iff]; constructor
 · intro h
   rw [lG]; intro i hi k hk hm; have key : ∀ f, f ∈ eu (es.getD k e0) (es.getD i e0) → False := fun f hf => by
    have : f ∈ bY es := Ku hk hi hf es.length (by omega)
    rw [h] at this; cases this
   unfold gK at hm; unfold eu at key
   rcases hm.2 with h1 | h1
   · exact key _ (List.mem_append_left _ (by rw [if_pos ⟨hm.1.symm, h1.symm⟩]; exact List.mem_singleton.2 rfl))
   · exact key _ (List.mem_append_right _ (by rw [if_pos ⟨hm.1.symm, h1.symm⟩]; exact List.mem_singleton.2 rfl))
 · intro h
   rw [List.eq_nil_iff_forall_not_mem]; intro f hf; obtain ⟨i, j, hij, hj, hp⟩ := DT es.length (nl _) hf; have hn := lG.1 h j hj i hij; unfold eu at hp; unfold gK at hn
   rcases List.mem_append.1 hp with h1 | h1
   · split at h1
     · rename_i c; exact hn ⟨c.1.symm, .inl c.2.symm⟩
     · cases h1
   · split at h1
     · rename_i c; exact hn ⟨c.1.symm, .inr c.2.symm⟩
     · cases h1
theorem Lj {r s : Int} {es : List Ed} {cs : List Int} (hg : aK r s es = true) : (bY (dI r s es cs 40).es).length = 0 := by
 by_cases h : ∃ j, j < 40 ∧ (bY (dI r s es cs j).es).length = 0
 · obtain ⟨j, hj, h0⟩ := h
   have := Io r s es cs h0 (40 - j); rw [show j + (40 - j) = 40 by omega] at this
   rw [this]; exact h0
 · exfalso
   have := MJ (i := 40) (cs := cs) hg (fun j hj h0 => h ⟨j, hj, h0⟩)
   omega
theorem Nv {r s : Int} {es : List Ed} (cs : List Int) (hg : aK r s es = true) : bJ r (Ho r s es cs) (BM r s es cs) = true := by
 unfold Ho BM; rw [if_pos hg, if_pos hg]; unfold bJ; rw [xx hg 40, Jy.1 (Lj hg)]; rfl
theorem FM {r s : Int} {es : List Ed} (hg : aK r s es = true) : bJ r (kR r s es) (kQ r s es) = true := by
 obtain ⟨h1, h2, _⟩ := Ei r s es; rw [h1, h2]; exact Nv [] hg
end Go.Proofs.YtgnomlcjikfdhaaGreat
