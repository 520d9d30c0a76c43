import Derived.Test.YtgnomlcjikfdhaaGreatJ22Me
import Derived.Test.YtgnomlcjikfdhaaGreatJ12Me
namespace Go.Proofs.YtgnomlcjikfdhaaGreat
open Go.RowKit
set_option linter.unusedVariables false
set_option linter.unusedSimpArgs false
theorem mQ {r s : Int} {es : List Ed} (h : aK r s es = true) {e : Ed} (he : e ∈ es) : (0 ≤ e.1 ∧ e.1 < s) ∧ (0 ≤ e.2.2 ∧ e.2.2 < s) ∧ (1 ≤ e.2.1 ∧ e.2.1 ≤ r) := by
 obtain ⟨i, hi, rfl⟩ := List.getElem_of_mem he; have hl := aZ h; have := lN (by omega) h hi
 rw [fB hi] at this; exact ⟨this.1, this.2.2, this.2.1⟩
theorem EO {r s : Int} {es : List Ed} (ha : lD es) (hp : ∀ e ∈ es, (0 ≤ e.1 ∧ e.1 < s) ∧ (0 ≤ e.2.2 ∧ e.2.2 < s) ∧ (1 ≤ e.2.1 ∧ e.2.1 ≤ r)) (hr : 1 ≤ r ∧ r ≤ 3) (hs : 1 ≤ s ∧ s ≤ 40) (hl : es.length ≤ 120) : aK r s es = true := by
 refine dN.2 ⟨fun i hi => ?_, hr.1, hr.2, hs.1, hs.2, hl⟩
 have h1 := hp _ (List.getElem_mem hi); unfold cZ edgeOk; have hw : wrap64 (s - 1) = s - 1 := by unfold wrap64; omega
 rw [fB hi, hw]; simp only [Bool.and_eq_true, Bool.or_eq_true, decide_eq_true_eq]; refine ⟨⟨⟨by omega, by omega⟩, by omega⟩, ?_⟩
 by_cases h0 : i = 0
 · exact .inl h0
 · right
   have := (List.pairwise_iff_getElem.1 ha) (i - 1) i (by omega) hi (by omega)
   rw [fB (by omega : i - 1 < es.length)]
   exact this
theorem gu {l : List Int} {i : Nat} (h : i < l.length) : l.getD i 0 = l[i] := by rw [gD, gE h]; rfl
theorem pG (l : List Int) (a b : Nat) (x : Int) : (l.set a x).getD b 0 = if a = b ∧ a < l.length then x else l.getD b 0 := by
 rw [gD, gD, List.getElem?_set]; by_cases h : a = b
 · subst h
   by_cases h2 : a < l.length
   · rw [if_pos rfl, if_pos h2, if_pos ⟨rfl, h2⟩]; rfl
   · rw [if_pos rfl, if_neg h2, if_neg (fun h => h2 h.2), List.getElem?_eq_none (by omega)]
 · rw [if_neg h, if_neg (fun h2 => h h2.1)]
theorem bI {l : List Int} {y : Int} : y ∈ l ↔ ∃ i, i < l.length ∧ l.getD i 0 = y := by
 constructor
 · intro h
   obtain ⟨i, hi, rfl⟩ := List.getElem_of_mem h; exact ⟨i, hi, gu hi⟩
 · rintro ⟨i, hi, rfl⟩
   rw [gu hi]; exact List.getElem_mem hi
theorem jm {l : List Int} (h : l.Nodup) {i j : Nat} (hi : i < l.length) (hj : j < l.length) (e : l.getD i 0 = l.getD j 0) : i = j := by
 rw [gu hi, gu hj] at e; have hp := List.pairwise_iff_getElem.1 h
 rcases Nat.lt_trichotomy i j with c | c | c
 · exact absurd e (hp i j hi hj c)
 · exact c
 · exact absurd e.symm (hp j i hj hi c)
theorem ul {l : List Int} (h : l.Pairwise (· < ·)) : l.Nodup := List.Pairwise.imp (fun h => by omega) h
theorem DF {s : Nat} {zs : List Int} {k : Nat} : sS s zs k = true ↔ (0 ≤ zs.getD k 0 ∧ zs.getD k 0 < (s : Int)) ∧ (dQ s zs k).getD (zs.getD k 0).toNat 0 = 0 := by
 unfold sS; rw [Bool.and_eq_true, decide_eq_true_eq, decide_eq_true_eq]
theorem zY {s : Nat} {zs : List Int} : ∀ n, iw s zs n = true → (∀ i, i < n → (0 ≤ zs.getD i 0 ∧ zs.getD i 0 < (s : Int)) ∧ (dQ s zs n).getD (zs.getD i 0).toNat 0 = (i : Int) + 1) ∧ (∀ v : Nat, (dQ s zs n).getD v 0 ≠ 0 → ∃ i, i < n ∧ zs.getD i 0 = (v : Int) ∧ (dQ s zs n).getD v 0 = (i : Int) + 1) := by
 intro n
 induction n with
 | zero =>
  intro _; refine ⟨fun i hi => by omega, fun v hv => ?_⟩
  exfalso; apply hv
  have := wU s zs 0 v; omega
 | succ n ih =>
  intro h; unfold iw at h; rw [Bool.and_eq_true] at h; obtain ⟨ih1, ih2⟩ := ih h.1; obtain ⟨hr, h0⟩ := DF.1 h.2; have hlen := jH s zs n; constructor
  · intro i hi
    by_cases hin : i = n
    · subst hin
      refine ⟨hr, ?_⟩; show ((dQ s zs i).set _ _).getD _ 0 = _
      rw [pG, if_pos ⟨rfl, by omega⟩]
    · obtain ⟨g1, g2⟩ := ih1 i (by omega)
      refine ⟨g1, ?_⟩; show ((dQ s zs n).set _ _).getD _ 0 = _
      rw [pG, if_neg (fun hc => ?_), g2]
      rw [← hc.1, h0] at g2; omega
  · intro v hv
    change ((dQ s zs n).set _ _).getD _ 0 ≠ 0 at hv
    show ∃ i, i < n + 1 ∧ zs.getD i 0 = (v : Int) ∧ ((dQ s zs n).set _ _).getD _ 0 = _
    rw [pG] at hv ⊢; by_cases hc : (zs.getD n 0).toNat = v ∧ (zs.getD n 0).toNat < (dQ s zs n).length
    · rw [if_pos hc]
      exact ⟨n, by omega, by omega, rfl⟩
    · rw [if_neg hc] at hv ⊢
      obtain ⟨i, hi, g⟩ := ih2 v hv; exact ⟨i, by omega, g⟩
theorem nR {s : Nat} {zs : List Int} : iw s zs zs.length = true ↔ iR s zs := by
 constructor
 · intro h
   obtain ⟨h1, h2⟩ := zY _ h; refine ⟨?_, fun y hy => ?_⟩
   · rw [List.Nodup, List.pairwise_iff_getElem]
     intro i j hi hj hij e; have a := (h1 i hi).2; have b := (h1 j hj).2; rw [gu hi] at a; rw [gu hj, ← e, a] at b; omega
   · obtain ⟨i, hi, rfl⟩ := bI.1 hy
     exact (h1 i hi).1
 · intro h
   have key : ∀ n, n ≤ zs.length → iw s zs n = true := by
    intro n
    induction n with
    | zero => intro _; rfl
    | succ n ih =>
     intro hn; have ih' := ih (by omega)
     unfold iw; rw [Bool.and_eq_true]; refine ⟨ih', DF.2 ⟨h.2 _ (bI.2 ⟨n, by omega, rfl⟩), ?_⟩⟩
     by_cases h0 : (dQ s zs n).getD (zs.getD n 0).toNat 0 = 0
     · exact h0
     · exfalso
       obtain ⟨i, hi, e, _⟩ := (zY n ih').2 _ h0; have hr := h.2 _ (bI.2 ⟨n, by omega, rfl⟩)
       have := jm h.1 (by omega : i < zs.length) (by omega : n < zs.length) (by omega)
       omega
   exact key _ (nl _)
theorem dV {r s : Int} {es : List Ed} {zs : List Int} : gy r s es zs = true ↔ aK r s es = true ∧ zs.length ≠ 0 ∧ iR s.toNat zs := by
 unfold gy; rw [Bool.and_eq_true, Bool.and_eq_true, decide_eq_true_eq, nR]; constructor
 · rintro ⟨⟨h1, h2, _⟩, h3⟩; exact ⟨h1, h2, h3⟩
 · rintro ⟨h1, h2, h3⟩
   have := h3.len; have := aZ h1; exact ⟨⟨h1, h2, by omega⟩, h3⟩
def kept (pl : List Int) (es : List Ed) : List Ed := (es.filter (fun e => qC pl e)).map (o6 pl)
theorem zx (pl : List Int) (es : List Ed) (e : Ed) : kept pl (es ++ [e]) = if qC pl e = true then kept pl es ++ [o6 pl e] else kept pl es := by
 unfold kept; rw [List.filter_append, List.map_append]; by_cases h : qC pl e = true
 · rw [if_pos h, List.filter_cons_of_pos h]; rfl
 · rw [if_neg h, List.filter_cons_of_neg h]; simp
theorem xw {es : List Ed} {k : Nat} (h : k < es.length) : es.take (k + 1) = es.take k ++ [es.getD k e0] := by
 rw [List.take_add_one, gE h, gD, gE h]; rfl
theorem KY (pl : List Int) (es : List Ed) : ∀ k, k ≤ es.length → kW pl es k = dD [] (kept pl (es.take k)) := by
 intro k
 induction k with
 | zero => intro _; rfl
 | succ k ih =>
  intro hk; rw [xw (by omega), zx]
  unfold kW; split
  · rw [jO, ih (by omega)]
  · exact ih (by omega)
theorem JL {pl : List Int} {es : List Ed} {x : Ed} : x ∈ kept pl es ↔ ∃ e ∈ es, qC pl e = true ∧ o6 pl e = x := by
 unfold kept; rw [List.mem_map]; constructor
 · rintro ⟨e, he, rfl⟩
   obtain ⟨h1, h2⟩ := List.mem_filter.1 he; exact ⟨e, h1, h2, rfl⟩
 · rintro ⟨e, h1, h2, rfl⟩
   exact ⟨e, List.mem_filter.2 ⟨h1, h2⟩, rfl⟩
theorem oD {s : Nat} {zs : List Int} (h : iw s zs zs.length = true) {e : Ed} (h1 : 0 ≤ e.1) (h2 : 0 ≤ e.2.2) : qC (dQ s zs zs.length) e = true ↔ e.1 ∈ zs ∧ e.2.2 ∈ zs := by
 obtain ⟨p1, p2⟩ := zY _ h; have key : ∀ v : Int, 0 ≤ v → (0 < (dQ s zs zs.length).getD v.toNat 0 ↔ v ∈ zs) := by
  intro v hv; constructor
  · intro hp
    obtain ⟨i, hi, e, _⟩ := p2 v.toNat (by omega)
    exact bI.2 ⟨i, hi, by omega⟩
  · intro hm
    obtain ⟨i, hi, rfl⟩ := bI.1 hm; rw [(p1 i hi).2]; omega
 unfold qC; rw [decide_eq_true_eq, key _ h1, key _ h2]
theorem qH {s : Nat} {zs : List Int} (h : iw s zs zs.length = true) {e : Ed} {i j : Nat} (hi : i < zs.length) (hj : j < zs.length) (h1 : e.1 = zs.getD i 0) (h2 : e.2.2 = zs.getD j 0) : o6 (dQ s zs zs.length) e = ((i : Int), e.2.1, (j : Int)) := by
 obtain ⟨p1, p2⟩ := zY _ h; unfold o6; rw [h1, h2, (p1 i hi).2, (p1 j hj).2]; congr 1
 · omega
 · congr 1; omega
theorem Ee {s : Nat} {zs : List Int} (h : iw s zs zs.length = true) {es : List Ed} (ha : lD es) (hE : iC s es) : (kept (dQ s zs zs.length) es).Nodup := by
 unfold kept; have hn : es.Nodup := List.Pairwise.imp (fun {a b} hab e => by subst e; rw [lI] at hab; omega) ha
 rw [List.Nodup, List.pairwise_map]; refine List.Pairwise.imp_of_mem ?_ (hn.filter _); intro a b ha hb hab e; apply hab
 obtain ⟨a1, a2⟩ := List.mem_filter.1 ha; obtain ⟨b1, b2⟩ := List.mem_filter.1 hb; have ea := hE a a1; have eb := hE b b1; obtain ⟨am, an⟩ := (oD h ea.1.1 ea.2.1).1 a2; obtain ⟨bm, bn⟩ := (oD h eb.1.1 eb.2.1).1 b2; obtain ⟨i, hi, ei⟩ := bI.1 am; obtain ⟨j, hj, ej⟩ := bI.1 an; obtain ⟨k, hk, ek⟩ := bI.1 bm; obtain ⟨l, hl, el⟩ := bI.1 bn; rw [qH h hi hj ei.symm ej.symm, qH h hk hl ek.symm el.symm] at e
 simp only [Prod.mk.injEq] at e; obtain ⟨e1, e2, e3⟩ := e; have e4 : i = k := by omega
 have e5 : j = l := by omega
 subst e4; subst e5
 exact Prod.ext (ei.symm.trans ek) (Prod.ext e2 (ej.symm.trans el))
theorem yR {r s : Int} {es : List Ed} {zs : List Int} (h : gy r s es zs = true) : dK r s es zs = dD [] (kept (dQ s.toNat zs zs.length) es) := by
 unfold dK; rw [if_pos h, KY _ _ _ (nl _), List.take_length]
theorem mX {r s : Int} {es : List Ed} {zs : List Int} (h : gy r s es zs = true) : lD (dK r s es zs) := by
 rw [yR h]; exact (kX _ [] List.Pairwise.nil).1
theorem xU {r s : Int} {es : List Ed} {zs : List Int} (h : gy r s es zs = true) : iw s.toNat zs zs.length = true := nR.2 (dV.1 h).2.2
theorem iP {r s : Int} {es : List Ed} {zs : List Int} (h : gy r s es zs = true) {x : Ed} : x ∈ dK r s es zs ↔ (0 ≤ x.1 ∧ x.1 < (zs.length : Int)) ∧ (0 ≤ x.2.2 ∧ x.2.2 < (zs.length : Int)) ∧ (zs.getD x.1.toNat 0, x.2.1, zs.getD x.2.2.toNat 0) ∈ es := by
 have hp := xU h; obtain ⟨hg, hz, hco⟩ := dV.1 h; have hE := eY hg; rw [yR h, (kX _ [] List.Pairwise.nil).2, JL]; constructor
 · rintro (h1 | ⟨e, he, h2, rfl⟩)
   · cases h1
   · have ee := hE e he
     obtain ⟨am, an⟩ := (oD hp ee.1.1 ee.2.1).1 h2; obtain ⟨i, hi, ei⟩ := bI.1 am; obtain ⟨j, hj, ej⟩ := bI.1 an; rw [qH hp hi hj ei.symm ej.symm]; refine ⟨⟨by simp, by simp; omega⟩, ⟨by simp, by simp; omega⟩, ?_⟩
     simp only [Int.toNat_natCast]; rw [ei, ej]; exact he
 · rintro ⟨h1, h2, h3⟩
   refine .inr ⟨_, h3, ?_, ?_⟩
   · have ee := hE _ h3
     exact (oD hp ee.1.1 ee.2.1).2 ⟨bI.2 ⟨_, by omega, rfl⟩, bI.2 ⟨_, by omega, rfl⟩⟩
   · rw [qH hp (i := x.1.toNat) (j := x.2.2.toNat) (by omega) (by omega) rfl rfl]
     exact Prod.ext (by simp; omega) (Prod.ext rfl (by simp; omega))
theorem Ah {r s : Int} {es : List Ed} {zs : List Int} (h : gy r s es zs = true) : (dK r s es zs).Perm (kept (dQ s.toNat zs zs.length) es) := by
 have hg := (dV.1 h).1; have hn : (dK r s es zs).Nodup := List.Pairwise.imp (fun {a b} hab e => by subst e; rw [lI] at hab; omega) (mX h)
 refine (List.perm_ext_iff_of_nodup hn (Ee (xU h) (lH hg) (eY hg))).2 fun x => ?_
 rw [yR h, (kX _ [] List.Pairwise.nil).2]; simp
theorem EP {r s : Int} {es ds : List Ed} {zs : List Int} (h : gy r s es zs = true) (hp : ds.Perm (kept (dQ s.toNat zs zs.length) es)) (hs : ds.Pairwise (fun a b => ¬ bP b a < 0)) : ds = dK r s es zs := by
 have hg := (dV.1 h).1; have hn : ds.Nodup := (List.Perm.nodup_iff hp).2 (Ee (xU h) (lH hg) (eY hg)); refine vV ?_ (mX h) fun x => ?_
 · refine List.Pairwise.imp ?_ (hs.and hn)
   rintro a b ⟨h1, h2⟩; have := lu a b
   rcases jG a b with c | c | c
   · omega
   · exact absurd (qg c) h2
   · omega
 · rw [hp.mem_iff, (Ah h).mem_iff]
theorem qP {r s : Int} {es : List Ed} {zs : List Int} (h : gy r s es zs = true) : aK r (zs.length : Int) (dK r s es zs) = true := by
 obtain ⟨hg, hz, hco⟩ := dV.1 h; have hl := aZ hg; have := hco.len; have := lV r s es zs; refine EO (mX h) (fun e he => ?_) ⟨hl.1, hl.2.1⟩ (by omega) (by omega)
 obtain ⟨h1, h2, h3⟩ := (iP h).1 he; exact ⟨h1, h2, (mQ hg h3).2.2⟩
theorem LM {r s : Int} {es : List Ed} {zs os : List Int} (h : gy r s es zs = true) (h2 : gy r (zs.length : Int) (dK r s es zs) os = true) : gy r s es (os.map fun i => zs.getD i.toNat 0) = true ∧ dK r (zs.length : Int) (dK r s es zs) os = dK r s es (os.map fun i => zs.getD i.toNat 0) := by
 obtain ⟨hg, hz, hco⟩ := dV.1 h; obtain ⟨hg2, hz2, hco2⟩ := dV.1 h2; have hco3 : iR s.toNat (os.map fun i => zs.getD i.toNat 0) := by
  constructor
  · rw [List.Nodup, List.pairwise_map]
    refine List.Pairwise.imp_of_mem ?_ hco2.1; intro a b ha hb hab e; have a1 := hco2.2 a ha; have b1 := hco2.2 b hb; have := jm hco.1 (by omega) (by omega) e
    omega
  · intro y hy
    obtain ⟨i, hi, rfl⟩ := List.mem_map.1 hy; have := hco2.2 i hi; exact hco.2 _ (bI.2 ⟨_, by omega, rfl⟩)
 have hok : gy r s es (os.map fun i => zs.getD i.toNat 0) = true := dV.2 ⟨hg, by rw [List.length_map]; exact hz2, hco3⟩
 refine ⟨hok, vV (mX h2) (mX hok) fun x => ?_⟩
 rw [iP h2, iP hok, List.length_map]; have hat : ∀ i : Int, 0 ≤ i ∧ i < (os.length : Int) → (os.map fun i => zs.getD i.toNat 0).getD i.toNat 0 = zs.getD (os.getD i.toNat 0).toNat 0 ∧ (0 ≤ os.getD i.toNat 0 ∧ os.getD i.toNat 0 < (zs.length : Int)) := by
  intro i hi; have hi2 : i.toNat < os.length := by omega
  refine ⟨?_, ?_⟩
  · rw [gD, List.getElem?_map, gE hi2, gu hi2]; rfl
  · have := hco2.2 _ (bI.2 ⟨_, hi2, rfl⟩)
    omega
 constructor
 · rintro ⟨a, b, c⟩
   have c2 := (iP h).1 c; refine ⟨a, b, ?_⟩; rw [(hat _ a).1, (hat _ b).1]; exact c2.2.2
 · rintro ⟨a, b, c⟩
   refine ⟨a, b, (iP h).2 ⟨(hat _ a).2, (hat _ b).2, ?_⟩⟩; rw [(hat _ a).1, (hat _ b).1] at c; exact c
theorem F9 {v : Int} {a b : List Ed} (h : a.Perm b) : bQ v a = bQ v b := by
 induction h with
 | nil => rfl
 | cons x _ ih => simp only [bQ, ih]
 | swap x y l => simp only [bQ]; omega
 | trans _ _ h1 h2 => exact h1.trans h2
def ji (zs : List Int) (es : List Ed) : List Ed := es.filter (fun e => decide (e.1 ∈ zs ∧ e.2.2 ∈ zs))
theorem kM {zs : List Int} {es : List Ed} {e : Ed} : e ∈ ji zs es ↔ e ∈ es ∧ e.1 ∈ zs ∧ e.2.2 ∈ zs := by
 unfold ji; rw [List.mem_filter, decide_eq_true_eq]
theorem uP {zs : List Int} {es : List Ed} {e : Ed} (h : e.1 ∈ zs ∧ e.2.2 ∈ zs) : ji zs (e :: es) = e :: ji zs es := by
 unfold ji; rw [List.filter_cons, if_pos (decide_eq_true h)]
theorem yD {zs : List Int} {es : List Ed} {e : Ed} (h : ¬ (e.1 ∈ zs ∧ e.2.2 ∈ zs)) : ji zs (e :: es) = ji zs es := by
 unfold ji; rw [List.filter_cons, if_neg (by rw [decide_eq_true_eq]; exact h)]
theorem JP {pl : List Int} {es : List Ed} {e : Ed} (h : qC pl e = true) : kept pl (e :: es) = o6 pl e :: kept pl es := by
 unfold kept; rw [List.filter_cons, if_pos h, List.map_cons]
theorem Iq {pl : List Int} {es : List Ed} {e : Ed} (h : ¬ qC pl e = true) : kept pl (e :: es) = kept pl es := by
 unfold kept; rw [List.filter_cons, if_neg h]
theorem Jb {s : Nat} {zs : List Int} (h : iw s zs zs.length = true) {i : Nat} (hi : i < zs.length) : ∀ {es : List Ed}, iC s es → bQ (i : Int) (kept (dQ s zs zs.length) es) = bQ (zs.getD i 0) (ji zs es) := by
 intro es
 induction es with
 | nil => intro _; rfl
 | cons e es ih =>
  intro hE; have ih' := ih fun x hx => hE x (List.mem_cons_of_mem _ hx)
  have ee := hE e List.mem_cons_self; have hn := (nR.1 h).1; by_cases hc : qC (dQ s zs zs.length) e = true
  · have hm := (oD h ee.1.1 ee.2.1).1 hc
    rw [JP hc, uP hm, bQ, bQ, ih']; obtain ⟨a, ha, ea⟩ := bI.1 hm.1; obtain ⟨b, hb, eb⟩ := bI.1 hm.2; rw [qH h ha hb ea.symm eb.symm, ← ea, ← eb]; have k1 : ((a : Int) = (i : Int)) ↔ zs.getD a 0 = zs.getD i 0 := ⟨fun h => by rw [show a = i by omega], fun h => by rw [jm hn ha hi h]⟩
    have k2 : ((b : Int) = (i : Int)) ↔ zs.getD b 0 = zs.getD i 0 := ⟨fun h => by rw [show b = i by omega], fun h => by rw [jm hn hb hi h]⟩
    simp only [k1, k2]
  · have hm : ¬ (e.1 ∈ zs ∧ e.2.2 ∈ zs) := fun hm => hc ((oD h ee.1.1 ee.2.1).2 hm)
    rw [Iq hc, yD hm]; exact ih'
theorem qI {r s : Int} {es : List Ed} {zs : List Int} (h : gy r s es zs = true) {i : Nat} (hi : i < zs.length) : bQ (i : Int) (dK r s es zs) = bQ (zs.getD i 0) (ji zs es) := by
 rw [F9 (Ah h), Jb (xU h) hi (eY (dV.1 h).1)]
theorem JF {v : Int} {K L : List Int} (hK : ∀ y ∈ K, y ∈ L) : ∀ es : List Ed, bQ v (ji K es) ≤ bQ v (ji L es) := by
 intro es
 induction es with
 | nil => exact Int.le_refl _
 | cons e es ih =>
  by_cases h1 : e.1 ∈ K ∧ e.2.2 ∈ K
  · rw [uP h1, uP ⟨hK _ h1.1, hK _ h1.2⟩, bQ, bQ]
    omega
  · rw [yD h1]
    by_cases h2 : e.1 ∈ L ∧ e.2.2 ∈ L
    · rw [uP h2, bQ]
      split <;> split <;> omega
    · rw [yD h2]; exact ih
theorem Dl {v : Int} : ∀ {G : List Ed} {e : Ed}, e ∈ G → e.1 = v ∨ e.2.2 = v → 1 ≤ bQ v G := by
 intro G
 induction G with
 | nil => intro e he; cases he
 | cons x G ih =>
  intro e he hv; have hb := (qx v G).1; rw [bQ]
  rcases List.mem_cons.1 he with rfl | he
  · rcases hv with hv | hv
    · rw [if_pos hv]; split <;> omega
    · rw [if_pos hv]; split <;> omega
  · have := ih he hv
    split <;> split <;> omega
theorem rV {v : Int} : ∀ {G : List Ed} {e x : Ed}, e ∈ G → x ∈ G → (e.1 = v ∨ e.2.2 = v) → (x.1 = v ∨ x.2.2 = v) → bQ v G < 2 → e = x := by
 intro G
 induction G with
 | nil => intro e x he; cases he
 | cons y G ih =>
  intro e x he hx hev hxv hd; have hb := (qx v G).1; rw [bQ] at hd
  rcases List.mem_cons.1 he with rfl | he2 <;> rcases List.mem_cons.1 hx with rfl | hx2
  · rfl
  · have := Dl hx2 hxv
    exfalso
    rcases hev with h | h <;> rw [if_pos h] at hd <;> split at hd <;> omega
  · have := Dl he2 hev
    exfalso
    rcases hxv with h | h <;> rw [if_pos h] at hd <;> split at hd <;> omega
  · exact ih he2 hx2 hev hxv (by split at hd <;> split at hd <;> omega)
def iD (es : List Ed) (a y : Int) : Prop := ∀ P : Int → Prop, P a → (∀ e ∈ es, P e.1 ↔ P e.2.2) → P y
theorem iD.mono {es fs : List Ed} (h : ∀ e ∈ es, e ∈ fs) {a y : Int} (hc : iD es a y) : iD fs a y := fun P h0 hP => hc P h0 fun e he => hP e (h e he)
theorem iD.start (es : List Ed) (a : Int) : iD es a a := fun P h0 _ => h0
theorem iD.both {es : List Ed} {a : Int} {e : Ed} (he : e ∈ es) : iD es a e.1 ↔ iD es a e.2.2 := ⟨fun h P h0 hP => (hP e he).1 (h P h0 hP), fun h P h0 hP => (hP e he).2 (h P h0 hP)⟩
theorem JS {es : List Ed} {P : Int → Prop} (hP : ∀ e ∈ es, P e.1 ↔ P e.2.2) : ∀ (fs : List Ed) (acc : List Int), (∀ e ∈ fs, e ∈ es) → (∀ y ∈ acc, P y) → ∀ y ∈ dm fs acc, P y := by
 intro fs
 induction fs with
 | nil => intro acc _ h; exact h
 | cons e fs ih =>
  intro acc hf h; refine ih (jq acc e) (fun x hx => hf x (List.mem_cons_of_mem _ hx)) fun y hy => ?_
  have he := hP e (hf e List.mem_cons_self)
  rcases gZ.1 hy with h1 | ⟨h1, h2⟩
  · exact h y h1
  · have hb : P e.1 ∧ P e.2.2 := by
     rcases h1 with h1 | h1
     · exact ⟨h _ h1, he.1 (h _ h1)⟩
     · exact ⟨he.2 (h _ h1), h _ h1⟩
    rcases h2 with h2 | h2
    · rw [h2]; exact hb.1
    · rw [h2]; exact hb.2
theorem zu {s : Nat} {es : List Ed} {a : Int} (hE : iC s es) (ha : 0 ≤ a ∧ a < (s : Int)) {y : Int} : y ∈ gp es a ↔ iD es a y := by
 have hasc : [a].Pairwise (fun a b : Int => a < b) := List.pairwise_singleton _ _
 have hmem : ∀ k, a ∈ di es k [a] := by
  intro k
  induction k with
  | zero => simp [di]
  | succ k ih => exact lJ es ih
 have hfix : dm es (gp es a) = gp es a := by
  have h2 : ∃ j, j < es.length + 1 ∧ dm es (di es j [a]) = di es j [a] := by
   rcases uT (es := es) hasc (es.length + 1) with h | h
   · exact h
   · have := FK es (di es (es.length + 1) [a]); omega
  obtain ⟨j, hj, h2⟩ := h2; have b1 := lX h2 (es.length + 1 - j); rw [show j + (es.length + 1 - j) = es.length + 1 by omega] at b1
  unfold gp; rw [b1, h2]
 constructor
 · intro hy P h0 hP
   have key : ∀ k, ∀ y ∈ di es k [a], P y := by
    intro k
    induction k with
    | zero => intro y hy; rw [di, List.mem_singleton] at hy; rw [hy]; exact h0
    | succ k ih => exact JS hP es _ (fun _ h => h) ih
   exact key _ y hy
 · intro hc
   refine hc (fun y => y ∈ gp es a) (hmem _) fun e he => ?_
   constructor
   · intro h
     have := (pU (acc := gp es a) he (.inl h)).2; rw [hfix] at this; exact this
   · intro h
     have := (pU (acc := gp es a) he (.inr h)).1; rw [hfix] at this; exact this
theorem yL {r s : Int} {es : List Ed} {zs : List Int} (h : gy r s es zs = true) {i : Nat} (hi : i < zs.length) : iD (dK r s es zs) 0 (i : Int) ↔ iD (ji zs es) (zs.getD 0 0) (zs.getD i 0) := by
 obtain ⟨hg, hz, hco⟩ := dV.1 h; constructor
 · intro hc P h0 hP
   have := hc (fun j => P (zs.getD j.toNat 0)) h0 fun x hx => ?_
   · simpa using this
   · obtain ⟨a, b, c⟩ := (iP h).1 hx
     exact hP _ (kM.2 ⟨c, bI.2 ⟨_, by omega, rfl⟩, bI.2 ⟨_, by omega, rfl⟩⟩)
 · intro hc P h0 hP
   have := hc (fun y => ∃ j, j < zs.length ∧ zs.getD j 0 = y ∧ P (j : Int)) ⟨0, by omega, rfl, h0⟩ fun e he => ?_
   · obtain ⟨j, hj, e, hp⟩ := this
     have := jm hco.1 hj hi e; subst this; exact hp
   · obtain ⟨e1, e2, e3⟩ := kM.1 he
     obtain ⟨a, ha, ea⟩ := bI.1 e2; obtain ⟨b, hb, eb⟩ := bI.1 e3; have hx : ((a : Int), e.2.1, (b : Int)) ∈ dK r s es zs := (iP h).2 ⟨⟨by simp, by simp; omega⟩, ⟨by simp, by simp; omega⟩, by simp only [Int.toNat_natCast]; rw [ea, eb]; exact e1⟩
     have hab := hP _ hx; constructor
     · rintro ⟨j, hj, e, hp⟩
       have := jm hco.1 hj ha (by rw [e, ea])
       subst this; exact ⟨b, hb, eb, hab.1 hp⟩
     · rintro ⟨j, hj, e, hp⟩
       have := jm hco.1 hj hb (by rw [e, eb])
       subst this; exact ⟨a, ha, ea, hab.2 hp⟩
theorem IA {es : List Ed} {L M : List Int} {v : Int} (hM : ∀ y, y ∈ M ↔ y ∈ L ∧ y ≠ v) (h0 : v ≠ 0) (hd : bQ v (ji L es) < 2) {y : Int} (hy : y ≠ v) (hc : iD (ji L es) 0 y) : iD (ji M es) 0 y := by
 have hin : ∀ e ∈ ji L es, e.1 ≠ v → e.2.2 ≠ v → e ∈ ji M es := fun e he h1 h2 => by
  obtain ⟨a, b, c⟩ := kM.1 he; exact kM.2 ⟨a, (hM _).2 ⟨b, h1⟩, (hM _).2 ⟨c, h2⟩⟩
 have := hc (fun y => (y ≠ v → iD (ji M es) 0 y) ∧ (y = v → ∀ e ∈ ji L es, (e.1 = v → e.2.2 ≠ v → iD (ji M es) 0 e.2.2) ∧ (e.2.2 = v → e.1 ≠ v → iD (ji M es) 0 e.1))) ⟨fun _ => iD.start _ _, fun h => absurd h.symm h0⟩ fun e he => ?_
 · exact this.1 hy
 · by_cases h1 : e.1 = v <;> by_cases h2 : e.2.2 = v
   · rw [h1, h2]
   · constructor
     · rintro ⟨_, b⟩
       exact ⟨fun _ => (b h1 e he).1 h1 h2, fun h => absurd h h2⟩
     · rintro ⟨a, _⟩
       refine ⟨fun h => absurd h1 h, fun _ x hx => ?_⟩
       have ha := a h2; constructor
       · intro x1 x2
         have := rV he hx (.inl h1) (.inl x1) hd; subst this; exact ha
       · intro x1 x2
         have := rV he hx (.inl h1) (.inr x1) hd; subst this; exact absurd x1 h2
   · constructor
     · rintro ⟨a, _⟩
       refine ⟨fun h => absurd h2 h, fun _ x hx => ?_⟩
       have ha := a h1; constructor
       · intro x1 x2
         have := rV he hx (.inr h2) (.inl x1) hd; subst this; exact absurd x1 h1
       · intro x1 x2
         have := rV he hx (.inr h2) (.inr x1) hd; subst this; exact ha
     · rintro ⟨_, b⟩
       exact ⟨fun _ => (b h2 e he).2 h2 h1, fun h => absurd h h1⟩
   · have hb := iD.both (a := 0) (hin e he h1 h2)
     constructor
     · rintro ⟨a, _⟩; exact ⟨fun _ => hb.1 (a h1), fun h => absurd h h2⟩
     · rintro ⟨a, _⟩; exact ⟨fun _ => hb.2 (a h2), fun h => absurd h h1⟩
theorem oC {v y : Int} : ∀ {k : Nat}, y ∈ dR v k ↔ 0 ≤ y ∧ y < (k : Int) ∧ y ≠ v := by
 intro k
 induction k with
 | zero =>
  constructor
  · intro h; cases h
  · rintro ⟨h1, h2, _⟩; omega
 | succ k ih =>
  unfold dR; by_cases e : (k : Int) = v
  · rw [if_pos e, ih]
    constructor
    · rintro ⟨a, b, c⟩; exact ⟨a, by omega, c⟩
    · rintro ⟨a, b, c⟩; exact ⟨a, by omega, c⟩
  · rw [if_neg e, List.mem_append, ih, List.mem_singleton]
    constructor
    · rintro (⟨a, b, c⟩ | rfl)
      · exact ⟨a, by omega, c⟩
      · exact ⟨by omega, by omega, e⟩
    · rintro ⟨a, b, c⟩
      by_cases h : y = (k : Int)
      · exact .inr h
      · exact .inl ⟨a, by omega, c⟩
theorem DR (v : Int) : ∀ k : Nat, (dR v k).Pairwise (· < ·) := by
 intro k
 induction k with
 | zero => exact List.Pairwise.nil
 | succ k ih =>
  unfold dR; split
  · exact ih
  · rw [List.pairwise_append]
    refine ⟨ih, List.pairwise_singleton _ _, fun a ha b hb => ?_⟩
    rw [List.mem_singleton] at hb; have := oC.1 ha; omega
theorem wJ (v : Int) (l : List Int) : ∀ k, eG v l k = (dR v k).map (fun i => l.getD i.toNat 0) := by
 intro k
 induction k with
 | zero => rfl
 | succ k ih =>
  unfold eG dR; split
  · exact ih
  · rw [List.map_append, ih]; rfl
theorem jv (n : Nat) : (gV n).length = n := by simp [gV]
theorem nZ {n i : Nat} (h : i < n) : (gV n).getD i 0 = (i : Int) := by
 rw [gu (by rw [jv]; exact h)]
 simp [gV]
theorem uy {n : Nat} {y : Int} : y ∈ gV n ↔ 0 ≤ y ∧ y < (n : Int) := by
 rw [bI]; constructor
 · rintro ⟨i, hi, rfl⟩
   rw [jv] at hi; rw [nZ hi]; omega
 · rintro ⟨h1, h2⟩
   exact ⟨y.toNat, by rw [jv]; omega, by rw [nZ (by omega)]; omega⟩
theorem uF {l : List Int} (h : l.Pairwise (· < ·)) {i j : Nat} (hij : i < j) (hj : j < l.length) : l.getD i 0 < l.getD j 0 := by
 rw [gu (by omega : i < l.length), gu hj]
 exact List.pairwise_iff_getElem.1 h i j (by omega) hj hij
theorem G7 (n : Nat) : (gV n).Pairwise (· < ·) := by
 rw [List.pairwise_iff_getElem]; intro i j hi hj hij; rw [← gu hi, ← gu hj]; rw [jv] at hi hj; rw [nZ hi, nZ hj]; omega
theorem DY {l : List Int} (h : l.Pairwise (· < ·)) (v : Int) : (eG v l l.length).Pairwise (· < ·) := by
 rw [wJ, List.pairwise_map]; refine List.Pairwise.imp_of_mem ?_ (DR v l.length); intro a b ha hb hab; have a1 := oC.1 ha; have b1 := oC.1 hb; exact uF h (by omega) (by omega)
theorem DC {l : List Int} (h : l.Pairwise (· < ·)) {v : Int} (hv : 0 ≤ v ∧ v < (l.length : Int)) {y : Int} : y ∈ eG v l l.length ↔ y ∈ l ∧ y ≠ l.getD v.toNat 0 := by
 rw [wJ, List.mem_map]; constructor
 · rintro ⟨i, hi, rfl⟩
   have hi := oC.1 hi; refine ⟨bI.2 ⟨_, by omega, rfl⟩, fun e => ?_⟩
   have := jm (ul h) (by omega) (by omega) e
   omega
 · rintro ⟨hy, hne⟩
   obtain ⟨i, hi, rfl⟩ := bI.1 hy; refine ⟨(i : Int), oC.2 ⟨by omega, by omega, fun e => hne ?_⟩, by simp⟩
   rw [show v.toNat = i by omega]
theorem yF {l : List Int} {v : Int} (hv : 0 ≤ v ∧ v < (l.length : Int)) : (eG v l l.length).length + 1 = l.length := by
 rw [mZ]; exact DK hv
theorem Mc (v : Nat) (l : List Int) : ∀ k, k ≤ l.length → eG (v : Int) l k = if k ≤ v then l.take k else l.take v ++ (l.drop (v + 1)).take (k - (v + 1)) := by
 intro k
 induction k with
 | zero => intro _; rfl
 | succ k ih =>
  intro hk; unfold eG; have ih' := ih (by omega)
  by_cases e : (k : Int) = (v : Int)
  · rw [if_pos e, ih', if_pos (by omega), if_neg (by omega), show k = v by omega]
    simp
  · rw [if_neg e, ih']
    by_cases c : k ≤ v
    · rw [if_pos c, if_pos (by omega), List.take_add_one, gE (by omega), gu (by omega)]; rfl
    · rw [if_neg c, if_neg (by omega), List.append_assoc]
      congr 1
      rw [show k + 1 - (v + 1) = (k - (v + 1)) + 1 by omega, List.take_add_one, List.getElem?_drop, show v + 1 + (k - (v + 1)) = k by omega, gE (by omega), gu (by omega)]; rfl
theorem La (v : Nat) (l : List Int) (hv : v < l.length) : eG (v : Int) l l.length = l.take v ++ l.drop (v + 1) := by
 rw [Mc v l _ (nl _), if_neg (by omega)]
 congr 1
 rw [List.take_of_length_le]; rw [List.length_drop]; omega
def Good (s : Int) (es : List Ed) (K : List Int) : Prop := ∀ y ∈ K, (0 ≤ y ∧ y < s) ∧ (y ≠ 0 → 2 ≤ bQ y (ji K es) ∧ iD (ji K es) 0 y)
structure uZ (s : Int) (es : List Ed) (l : List Int) : Prop where
 co : iR s.toNat l
 asc : l.Pairwise (· < ·)
 zero : 0 ∈ l
 big : ∀ K, Good s es K → ∀ y ∈ K, y ∈ l
theorem uZ.ok {r s : Int} {es : List Ed} {l : List Int} (h : uZ s es l) (hg : aK r s es = true) : gy r s es l = true := by
 refine dV.2 ⟨hg, ?_, h.co⟩; obtain ⟨i, hi, _⟩ := bI.1 h.zero; omega
theorem uZ.head {s : Int} {es : List Ed} {l : List Int} (h : uZ s es l) : l.getD 0 0 = 0 ∧ 0 < l.length := by
 obtain ⟨i, hi, e⟩ := bI.1 h.zero; refine ⟨?_, by omega⟩
 rcases Nat.eq_zero_or_pos i with c | c
 · subst c; exact e
 · have h1 := uF h.asc c hi
   have h2 := h.co.2 _ (bI.2 ⟨0, by omega, rfl⟩)
   omega
theorem uZ.step {r s : Int} {es : List Ed} {l : List Int} (h : uZ s es l) (hg : aK r s es = true) {v : Int} (hv : 1 ≤ v ∧ v < (l.length : Int)) (hd : bQ v (dK r s es l) < 2 ∨ ¬ iD (dK r s es l) 0 v) : uZ s es (eG v l l.length) := by
 have hm := fun y => DC h.asc (v := v) (by omega) (y := y)
 have hok := h.ok hg; have hd0 := h.head; have hv0 : 0 < l.getD v.toNat 0 := by
  have := uF h.asc (i := 0) (j := v.toNat) (by omega) (by omega)
  omega
 refine ⟨⟨ul (DY h.asc v), fun y hy => h.co.2 y ((hm y).1 hy).1⟩, DY h.asc v, (hm 0).2 ⟨h.zero, by omega⟩, fun K hK y hy => (hm y).2 ⟨h.big K hK y hy, fun e => ?_⟩⟩
 have hKl := h.big K hK; have hg1 := (hK y hy).2 (by omega)
 rw [show v = ((v.toNat : Nat) : Int) by omega, qI hok (by omega), yL hok (by omega), hd0.1, ← e] at hd
 rcases hd with hd | hd
 · have := JF (v := y) hKl es
   omega
 · refine hd (hg1.2.mono fun x hx => ?_)
   obtain ⟨a, b, c⟩ := kM.1 hx; exact kM.2 ⟨a, hKl _ b, hKl _ c⟩
theorem pM {r s : Int} {es : List Ed} (hg : aK r s es = true) {v : Int} : jR r s es v = true ↔ bQ v es < 2 ∨ ¬ iD es 0 v := by
 have hl := aZ hg; unfold jR; have hr : gU r s es 0 = gp es 0 := by
  unfold gU; rw [if_pos]; rw [hg]; exact decide_eq_true (by omega)
 rw [hr, Bool.or_eq_true, decide_eq_true_eq, Bool.not_eq_true', decide_eq_false_iff_not, zu (eY hg) (by omega)]
theorem BF {r s : Int} {es : List Ed} : ∀ g v, 0 ≤ v → oV r s es v g < 0 → ∀ u, v ≤ u → u < v + g → jR r s es u = false := by
 intro g
 induction g with
 | zero => intro v _ _ u h1 h2; omega
 | succ g ih =>
  intro v h0 h u h1 h2; unfold oV at h; by_cases c : jR r s es v = true
  · rw [if_pos c] at h; omega
  · rw [if_neg c] at h
    by_cases e : u = v
    · subst e; simpa using c
    · exact ih (v + 1) (by omega) h u (by omega) (by omega)
theorem Du {r s : Int} {es : List Ed} : ∀ g v, 0 ≤ oV r s es v g → jR r s es (oV r s es v g) = true := by
 intro g
 induction g with
 | zero => intro v h; change 0 ≤ (-1 : Int) at h; omega
 | succ g ih =>
  intro v h; unfold oV at h ⊢; by_cases c : jR r s es v = true
  · rw [if_pos c]; exact c
  · rw [if_neg c] at h ⊢; exact ih _ h
structure BH (r s : Int) (es : List Ed) (x : qj) : Prop where
 sub : uZ s es x.l
 sz : x.s = (x.l.length : Int)
 ed : x.es = dK r s es x.l
theorem Lm {s : Int} {es : List Ed} {K : List Int} (h : Good s es K) {y : Int} (hy : y ∈ K) : 0 ≤ y ∧ y < s := (h y hy).1
theorem wK {r s : Int} {es : List Ed} (hg : aK r s es = true) : BH r s es ⟨s, es, gV s.toNat⟩ := by
 have hl := aZ hg; have hsub : uZ s es (gV s.toNat) := ⟨⟨ul (G7 _), fun y hy => uy.1 hy⟩, G7 _, uy.2 (by omega), fun K hK y hy => uy.2 (by have := Lm hK hy; omega)⟩
 refine ⟨hsub, by show s = _; rw [jv]; omega, ?_⟩
 have hok := hsub.ok hg; refine vV (lH hg) (mX hok) fun x => ?_
 show x ∈ es ↔ x ∈ dK r s es (gV s.toNat)
 rw [iP hok, jv]; constructor
 · intro hx
   have h := mQ hg hx; refine ⟨by omega, by omega, ?_⟩
   rw [nZ (by omega), nZ (by omega)]
   have : ((x.1.toNat : Int), x.2.1, (x.2.2.toNat : Int)) = x := Prod.ext (by simp; omega) (Prod.ext rfl (by simp; omega))
   rw [this]; exact hx
 · rintro ⟨h1, h2, h3⟩
   rw [nZ (by omega), nZ (by omega)] at h3
   have : ((x.1.toNat : Int), x.2.1, (x.2.2.toNat : Int)) = x := Prod.ext (by simp; omega) (Prod.ext rfl (by simp; omega))
   rw [this] at h3; exact h3
theorem uQ {r s : Int} {es : List Ed} (hg : aK r s es = true) {x : qj} (h : BH r s es x) : BH r s es (rq r x) ∧ (0 ≤ lf r x.s x.es → (rq r x).l.length + 1 = x.l.length) := by
 unfold rq; by_cases c : lf r x.s x.es < 0
 · rw [if_pos c]; exact ⟨h, fun h2 => by omega⟩
 · rw [if_neg c]
   have hok := h.sub.ok hg; have hg2 : aK r x.s x.es = true := by rw [h.sz, h.ed]; exact qP hok
   obtain ⟨v, hv⟩ := ag (lf r x.s x.es); have hor := EK r x.s x.es; have hleaf : jR r x.s x.es v = true := by
    rw [hv]; unfold lf at c ⊢; exact Du _ _ (by omega)
   rw [← hv] at c hor ⊢; have hvr : 1 ≤ v ∧ v < x.s := by omega
   have hxs := h.sz; have hn : x.s.toNat = x.l.length := by omega
   have hst := h.sub.step hg (v := v) (by omega) (by rw [pM hg2, h.ed] at hleaf; exact hleaf)
   have hln := DK (v := v) (k := x.l.length) (by omega)
   have hok2 : gy r (x.l.length : Int) (dK r s es x.l) (dR v x.l.length) = true := by
    refine dV.2 ⟨qP hok, by omega, ul (DR _ _), fun y hy => ?_⟩
    have := oC.1 hy; omega
   have hrr := LM hok hok2; rw [← wJ] at hrr; rw [hn]; refine ⟨⟨hst, ?_, ?_⟩, fun _ => ?_⟩
   · show kV r x.s x.es (dR v x.l.length) = ((eG v x.l x.l.length).length : Int)
     rw [hxs, h.ed]; unfold kV; rw [if_pos hok2, mZ]
   · show dK r x.s x.es (dR v x.l.length) = _
     rw [hxs, h.ed]; exact hrr.2
   · exact yF (by omega)
theorem mf {r s : Int} {es : List Ed} (hg : aK r s es = true) : ∀ i, BH r s es (dW r s es i) := by
 intro i
 induction i with
 | zero => exact wK hg
 | succ i ih => exact (uQ hg ih).1
theorem He {r s : Int} {es : List Ed} (hg : aK r s es = true) : ∀ i, lf r (dW r s es i).s (dW r s es i).es < 0 ∨ ((dW r s es (i + 1)).l.length + (i + 1) : Int) = s := by
 intro i
 induction i with
 | zero =>
  by_cases c : lf r (dW r s es 0).s (dW r s es 0).es < 0
  · exact .inl c
  · right
    have h := (uQ hg (mf hg 0)).2 (by omega)
    change (dW r s es 1).l.length + 1 = (gV s.toNat).length at h
    rw [jv] at h; have := aZ hg; show ((dW r s es 1).l.length + (0 + 1) : Int) = s
    omega
 | succ i ih =>
  by_cases c : lf r (dW r s es (i + 1)).s (dW r s es (i + 1)).es < 0
  · exact .inl c
  · right
    rcases ih with ih | ih
    · exfalso
      have := sH r s es ih 1; rw [this] at c; exact c ih
    · have h := (uQ hg (mf hg (i + 1))).2 (by omega)
      change (dW r s es (i + 1 + 1)).l.length + 1 = (dW r s es (i + 1)).l.length at h
      push_cast at ih ⊢
      omega
theorem Hm {r s : Int} {es : List Ed} (hg : aK r s es = true) : lf r (dW r s es 40).s (dW r s es 40).es < 0 := by
 rcases He hg 40 with h | h
 · exact h
 · have := aZ hg
   omega
theorem KG {r s : Int} {es : List Ed} (hg : aK r s es = true) {x : qj} (h : BH r s es x) (he : lf r x.s x.es < 0) : Good s es x.l := by
 have hok := h.sub.ok hg; have hg2 : aK r x.s x.es = true := by rw [h.sz, h.ed]; exact qP hok
 have hl := aZ hg; intro y hy; have hyr := h.sub.co.2 y hy; refine ⟨by omega, fun hy0 => ?_⟩
 obtain ⟨i, hi, e⟩ := bI.1 hy; have hd0 := h.sub.head; have hi0 : i ≠ 0 := fun c => by subst c; omega
 have hno := BF _ _ (by omega) he (i : Int) (by omega) (by have := h.sz; omega)
 have hn2 : ¬ jR r x.s x.es (i : Int) = true := by rw [hno]; simp
 rw [pM hg2, h.ed, qI hok hi, yL hok hi, hd0.1, e] at hn2; constructor
 · omega
 · exact Classical.byContradiction fun hc => hn2 (.inr hc)
def oK (es : List Ed) (v : Int) : Nat → Int
 | 0 => -1
 | g + 1 => if bQ v es < 2 then v else oK es (v + 1) g
def ld (s : Int) (es : List Ed) : Int := oK es 1 (s - 1).toNat
theorem Nh {es : List Ed} : ∀ g v, 0 ≤ v → oK es v g < 0 → ∀ u, v ≤ u → u < v + g → 2 ≤ bQ u es := by
 intro g
 induction g with
 | zero => intro v _ _ u h1 h2; omega
 | succ g ih =>
  intro v h0 h u h1 h2; unfold oK at h; by_cases c : bQ v es < 2
  · rw [if_pos c] at h; omega
  · rw [if_neg c] at h
    by_cases e : u = v
    · subst e; omega
    · exact ih (v + 1) (by omega) h u (by omega) (by omega)
theorem KD {es : List Ed} : ∀ g v, 0 ≤ oK es v g → bQ (oK es v g) es < 2 := by
 intro g
 induction g with
 | zero => intro v h; change 0 ≤ (-1 : Int) at h; omega
 | succ g ih =>
  intro v h; unfold oK at h ⊢; by_cases c : bQ v es < 2
  · rw [if_pos c]; exact c
  · rw [if_neg c] at h ⊢; exact ih _ h
theorem Md (es : List Ed) : ∀ g v, oK es v g = -1 ∨ (v ≤ oK es v g ∧ oK es v g < v + g) := by
 intro g
 induction g with
 | zero => intro v; exact .inl rfl
 | succ g ih =>
  intro v; unfold oK; split
  · right; omega
  · rcases ih (v + 1) with h | h
    · exact .inl h
    · right; omega
theorem J4 (s : Int) (es : List Ed) : ld s es = -1 ∨ (1 ≤ ld s es ∧ ld s es < s) := by
 rcases Md es (s - 1).toNat 1 with h | h
 · exact .inl h
 · right; unfold ld; omega
structure tu (s : Int) (es : List Ed) (l : List Int) : Prop where
 sub : uZ s es l
 con : ∀ y ∈ l, iD (ji l es) 0 y
theorem IR {r s : Int} {es : List Ed} (hg : aK r s es = true) : tu s es (gU r s es 0) := by
 have hl := aZ hg; have hE := eY hg; have hr : gU r s es 0 = gp es 0 := by
  unfold gU; rw [if_pos]; rw [hg]; exact decide_eq_true (by omega)
 have hm := fun y => zu hE (a := 0) (by omega) (y := y)
 have hasc : (gp es 0).Pairwise (· < ·) := by
  rw [← sF hE (by omega)]; exact vU _
 rw [hr]; refine ⟨⟨⟨ul hasc, fun y hy => ?_⟩, hasc, (hm 0).2 (iD.start _ _), fun K hK y hy => ?_⟩, fun y hy => ?_⟩
 · rw [← sF hE (by omega)] at hy
   exact (sG.1 hy).2
 · by_cases h0 : y = 0
   · rw [h0]; exact (hm 0).2 (iD.start _ _)
   · exact (hm y).2 (((hK y hy).2 h0).2.mono fun x hx => (kM.1 hx).1)
 · have := (hm y).1 hy
   have := this (fun z => iD es 0 z ∧ iD (ji (gp es 0) es) 0 z) ⟨iD.start _ _, iD.start _ _⟩ fun e he => ?_
   · exact this.2
   · have hb := iD.both (a := 0) he
     constructor
     · rintro ⟨a, b⟩
       exact ⟨hb.1 a, (iD.both (a := 0) (kM.2 ⟨he, (hm _).2 a, (hm _).2 (hb.1 a)⟩)).1 b⟩
     · rintro ⟨a, b⟩
       exact ⟨hb.2 a, (iD.both (a := 0) (kM.2 ⟨he, (hm _).2 (hb.2 a), (hm _).2 a⟩)).2 b⟩
theorem Kq {r s : Int} {es : List Ed} (hg : aK r s es = true) {l : List Int} (h : tu s es l) {v : Int} (hv : v = ld (l.length : Int) (dK r s es l)) (h0 : 0 ≤ v) : tu s es (eG v l l.length) ∧ (1 ≤ v ∧ v < (l.length : Int)) := by
 have hok := h.sub.ok hg; have hor := J4 (l.length : Int) (dK r s es l); have hd : bQ v (dK r s es l) < 2 := by
  rw [hv] at h0 ⊢; unfold ld at h0 ⊢; exact KD _ _ h0
 have hvr : 1 ≤ v ∧ v < (l.length : Int) := by omega
 have hd0 := h.sub.head; have hd2 := hd; rw [show v = ((v.toNat : Nat) : Int) by omega, qI hok (by omega)] at hd2
 have hv0 : 0 < l.getD v.toNat 0 := by
  have := uF h.sub.asc (i := 0) (j := v.toNat) (by omega) (by omega)
  omega
 refine ⟨⟨h.sub.step hg hvr (.inl hd), fun y hy => ?_⟩, hvr⟩
 have hm := fun y => DC h.sub.asc (v := v) (by omega) (y := y)
 have hy2 := (hm y).1 hy; exact IA hm (by omega) hd2 hy2.2 (h.con y hy2.1)
theorem LW {r s : Int} {es : List Ed} (hg : aK r s es = true) {l : List Int} (h : tu s es l) (he : ld (l.length : Int) (dK r s es l) < 0) : l = mM r s es ∧ (l.length : Int) = jE r s es ∧ dK r s es l = jg r s es := by
 have hok := h.sub.ok hg; have hl := aZ hg; have hd0 := h.sub.head; have hgood : Good s es l := by
  intro y hy; have hyr := h.sub.co.2 y hy; refine ⟨by omega, fun hy0 => ⟨?_, h.con y hy⟩⟩
  obtain ⟨i, hi, e⟩ := bI.1 hy; have hi0 : i ≠ 0 := fun c => by subst c; omega
  have := Nh _ _ (by omega) he (i : Int) (by omega) (by omega)
  rw [qI hok hi, e] at this; exact this
 have hmo := mf hg 40; have hmg := KG hg hmo (Hm hg); have heq : l = (dW r s es 40).l := qF h.sub.asc hmo.sub.asc fun y => ⟨fun hy => hmo.sub.big l hgood y hy, fun hy => h.sub.big _ hmg y hy⟩
 unfold mM jE jg; rw [if_pos hg, if_pos hg, if_pos hg]; exact ⟨heq, by rw [hmo.sz, heq], by rw [hmo.ed, heq]⟩
theorem MR {r s : Int} {es : List Ed} (hg : aK r s es = true) : ((mM r s es).length : Int) = s ↔ lf r s es < 0 := by
 have hl := aZ hg; unfold mM; rw [if_pos hg]; constructor
 · intro h
   rcases He hg 0 with c | c
   · exact c
   · exfalso
     have key : ∀ j, (dW r s es (1 + j)).l.length ≤ (dW r s es 1).l.length := by
      intro j
      induction j with
      | zero => exact nl _
      | succ j ih =>
       have h2 := uQ hg (mf hg (1 + j)); by_cases c2 : lf r (dW r s es (1 + j)).s (dW r s es (1 + j)).es < 0
       · have := sH r s es c2 1
         rw [show 1 + (j + 1) = 1 + j + 1 by omega, this]; exact ih
       · have := h2.2 (by omega)
         change (dW r s es (1 + j + 1)).l.length + 1 = _ at this
         rw [show 1 + (j + 1) = 1 + j + 1 by omega]
         omega
     have := key 39; change (dW r s es 40).l.length ≤ _ at this
     change ((dW r s es 1).l.length + (0 + 1) : Int) = s at c
     omega
 · intro h
   have : dW r s es (0 + 40) = dW r s es 0 := sH r s es (i := 0) h 40; rw [Nat.zero_add] at this; rw [this]; show ((gV s.toNat).length : Int) = s
   rw [jv]; omega
theorem En (r s : Int) (es : List Ed) : (mM r s es).length ≤ 40 := by
 unfold mM; by_cases hg : aK r s es = true
 · rw [if_pos hg]
   have := (mf hg 40).sub.co.len; have := aZ hg; omega
 · rw [if_neg hg]; simp
theorem xh (r s : Int) (es : List Ed) : (jg r s es).length ≤ es.length := by
 unfold jg; split
 · exact Ea r s es 40
 · exact nl _
theorem JV {r s : Int} {es : List Ed} (hg : aK r s es = true) : aK r (jE r s es) (jg r s es) = true := by
 unfold jE jg; rw [if_pos hg, if_pos hg]; have h := mf hg 40; rw [h.sz, h.ed]; exact qP (h.sub.ok hg)
end Go.Proofs.YtgnomlcjikfdhaaGreat
