import Derived.Test.YtpjlamnjiilgbaaGreatJ9Ba
import Derived.Test.YtpjlamnjiilgbaaGreatJ7Ba
namespace Go.Proofs.YtpjlamnjiilgbaaGreat
open Go.RowKit
set_option linter.unusedVariables false
set_option linter.unusedSimpArgs false
theorem gr_mem8 {r s : Int} {es : List Ed} (h : isGr r s es = true) {e : Ed} (he : e ∈ es) : (0 ≤ e.1 ∧ e.1 < s) ∧ (0 ≤ e.2.2 ∧ e.2.2 < s) ∧ (1 ≤ e.2.1 ∧ e.2.1 ≤ r) := by
 obtain ⟨i, hi, rfl⟩ := List.getElem_of_mem he
 have hl := isGr_lim h
 have := isGr_at (by omega) h hi
 rw [getE_el hi] at this
 exact ⟨this.1, this.2.2, this.2.1⟩
theorem gr_of_asc8 {r s : Int} {es : List Ed} (ha : AscE es) (hp : ∀ e ∈ es, (0 ≤ e.1 ∧ e.1 < s) ∧ (0 ≤ e.2.2 ∧ e.2.2 < s) ∧ (1 ≤ e.2.1 ∧ e.2.1 ≤ r)) (hr : 1 ≤ r ∧ r ≤ 3) (hs : 1 ≤ s ∧ s ≤ 40) (hl : es.length ≤ 120) : isGr r s es = true := by
 refine isGr_iff.2 ⟨fun i hi => ?_, hr.1, hr.2, hs.1, hs.2, hl⟩
 have h1 := hp _ (List.getElem_mem hi)
 unfold placeOk edgeOk
 have hw : wrap64 (s - 1) = s - 1 := by unfold wrap64; omega
 rw [getE_el hi, hw]
 simp only [Bool.and_eq_true, Bool.or_eq_true, decide_eq_true_eq]
 refine ⟨⟨⟨by omega, by omega⟩, by omega⟩, ?_⟩
 by_cases h0 : i = 0
 · exact .inl h0
 · right
   have := (List.pairwise_iff_getElem.1 ha) (i - 1) i (by omega) hi (by omega)
   rw [getE_el (by omega : i - 1 < es.length)]
   exact this
theorem getD_of {l : List Int} {i : Nat} (h : i < l.length) : l.getD i 0 = l[i] := by rw [List.getD_eq_getElem?_getD, List.getElem?_eq_getElem h]; rfl
theorem getD_set8 (l : List Int) (a b : Nat) (x : Int) : (l.set a x).getD b 0 = if a = b ∧ a < l.length then x else l.getD b 0 := by
 rw [List.getD_eq_getElem?_getD, List.getD_eq_getElem?_getD, List.getElem?_set]
 by_cases h : a = b
 · subst h
   by_cases h2 : a < l.length
   · rw [if_pos rfl, if_pos h2, if_pos ⟨rfl, h2⟩]; rfl
   · rw [if_pos rfl, if_neg h2, if_neg (fun h => h2 h.2), List.getElem?_eq_none (by omega)]
 · rw [if_neg h, if_neg (fun h2 => h h2.1)]
theorem mem_getI {l : List Int} {y : Int} : y ∈ l ↔ ∃ i, i < l.length ∧ l.getD i 0 = y := by
 constructor
 · intro h
   obtain ⟨i, hi, rfl⟩ := List.getElem_of_mem h
   exact ⟨i, hi, getD_of hi⟩
 · rintro ⟨i, hi, rfl⟩
   rw [getD_of hi]; exact List.getElem_mem hi
theorem nd_inj {l : List Int} (h : l.Nodup) {i j : Nat} (hi : i < l.length) (hj : j < l.length) (e : l.getD i 0 = l.getD j 0) : i = j := by
 rw [getD_of hi, getD_of hj] at e
 have hp := List.pairwise_iff_getElem.1 h
 rcases Nat.lt_trichotomy i j with c | c | c
 · exact absurd e (hp i j hi hj c)
 · exact c
 · exact absurd e.symm (hp j i hj hi c)
theorem asc_nd {l : List Int} (h : l.Pairwise (· < ·)) : l.Nodup := List.Pairwise.imp (fun h => by omega) h
theorem plB_iff {s : Nat} {zs : List Int} {k : Nat} : plB s zs k = true ↔ (0 ≤ zs.getD k 0 ∧ zs.getD k 0 < (s : Int)) ∧ (plN s zs k).getD (zs.getD k 0).toNat 0 = 0 := by
 unfold plB
 rw [Bool.and_eq_true, decide_eq_true_eq, decide_eq_true_eq]
theorem pl_at {s : Nat} {zs : List Int} : ∀ n, plAll s zs n = true → (∀ i, i < n → (0 ≤ zs.getD i 0 ∧ zs.getD i 0 < (s : Int)) ∧ (plN s zs n).getD (zs.getD i 0).toNat 0 = (i : Int) + 1) ∧ (∀ v : Nat, (plN s zs n).getD v 0 ≠ 0 → ∃ i, i < n ∧ zs.getD i 0 = (v : Int) ∧ (plN s zs n).getD v 0 = (i : Int) + 1) := by
 intro n
 induction n with
 | zero =>
  intro _
  refine ⟨fun i hi => by omega, fun v hv => ?_⟩
  exfalso; apply hv
  have := plN_in s zs 0 v
  omega
 | succ n ih =>
  intro h
  unfold plAll at h
  rw [Bool.and_eq_true] at h
  obtain ⟨ih1, ih2⟩ := ih h.1
  obtain ⟨hr, h0⟩ := plB_iff.1 h.2
  have hlen := plN_length s zs n
  constructor
  · intro i hi
    by_cases hin : i = n
    · subst hin
      refine ⟨hr, ?_⟩
      show ((plN s zs i).set _ _).getD _ 0 = _
      rw [getD_set8, if_pos ⟨rfl, by omega⟩]
    · obtain ⟨g1, g2⟩ := ih1 i (by omega)
      refine ⟨g1, ?_⟩
      show ((plN s zs n).set _ _).getD _ 0 = _
      rw [getD_set8, if_neg (fun hc => ?_), g2]
      rw [← hc.1, h0] at g2
      omega
  · intro v hv
    change ((plN s zs n).set _ _).getD _ 0 ≠ 0 at hv
    show ∃ i, i < n + 1 ∧ zs.getD i 0 = (v : Int) ∧ ((plN s zs n).set _ _).getD _ 0 = _
    rw [getD_set8] at hv ⊢
    by_cases hc : (zs.getD n 0).toNat = v ∧ (zs.getD n 0).toNat < (plN s zs n).length
    · rw [if_pos hc]
      exact ⟨n, by omega, by omega, rfl⟩
    · rw [if_neg hc] at hv ⊢
      obtain ⟨i, hi, g⟩ := ih2 v hv
      exact ⟨i, by omega, g⟩
theorem plAll_iff2 {s : Nat} {zs : List Int} : plAll s zs zs.length = true ↔ CoIn s zs := by
 constructor
 · intro h
   obtain ⟨h1, h2⟩ := pl_at _ h
   refine ⟨?_, fun y hy => ?_⟩
   · rw [List.Nodup, List.pairwise_iff_getElem]
     intro i j hi hj hij e
     have a := (h1 i hi).2
     have b := (h1 j hj).2
     rw [getD_of hi] at a
     rw [getD_of hj, ← e, a] at b
     omega
   · obtain ⟨i, hi, rfl⟩ := mem_getI.1 hy
     exact (h1 i hi).1
 · intro h
   have key : ∀ n, n ≤ zs.length → plAll s zs n = true := by
    intro n
    induction n with
    | zero => intro _; rfl
    | succ n ih =>
     intro hn
     have ih' := ih (by omega)
     unfold plAll
     rw [Bool.and_eq_true]
     refine ⟨ih', plB_iff.2 ⟨h.2 _ (mem_getI.2 ⟨n, by omega, rfl⟩), ?_⟩⟩
     by_cases h0 : (plN s zs n).getD (zs.getD n 0).toNat 0 = 0
     · exact h0
     · exfalso
       obtain ⟨i, hi, e, _⟩ := (pl_at n ih').2 _ h0
       have hr := h.2 _ (mem_getI.2 ⟨n, by omega, rfl⟩)
       have := nd_inj h.1 (by omega : i < zs.length) (by omega : n < zs.length) (by omega)
       omega
   exact key _ (Nat.le_refl _)
theorem okN_iff {r s : Int} {es : List Ed} {zs : List Int} : okN r s es zs = true ↔ isGr r s es = true ∧ zs.length ≠ 0 ∧ CoIn s.toNat zs := by
 unfold okN
 rw [Bool.and_eq_true, Bool.and_eq_true, decide_eq_true_eq, plAll_iff2]
 constructor
 · rintro ⟨⟨h1, h2, _⟩, h3⟩; exact ⟨h1, h2, h3⟩
 · rintro ⟨h1, h2, h3⟩
   have := h3.len
   have := isGr_lim h1
   exact ⟨⟨h1, h2, by omega⟩, h3⟩
def kept (pl : List Int) (es : List Ed) : List Ed := (es.filter (fun e => inP pl e)).map (numE pl)
theorem kept_snoc (pl : List Int) (es : List Ed) (e : Ed) : kept pl (es ++ [e]) = if inP pl e = true then kept pl es ++ [numE pl e] else kept pl es := by
 unfold kept
 rw [List.filter_append, List.map_append]
 by_cases h : inP pl e = true
 · rw [if_pos h, List.filter_cons_of_pos h]; rfl
 · rw [if_neg h, List.filter_cons_of_neg h]; simp
theorem take_oneE8 {es : List Ed} {k : Nat} (h : k < es.length) : es.take (k + 1) = es.take k ++ [es.getD k e0] := by
 rw [List.take_add_one, List.getElem?_eq_getElem h, List.getD_eq_getElem?_getD, List.getElem?_eq_getElem h]; rfl
theorem rnN_put (pl : List Int) (es : List Ed) : ∀ k, k ≤ es.length → rnN pl es k = putAll [] (kept pl (es.take k)) := by
 intro k
 induction k with
 | zero => intro _; rfl
 | succ k ih =>
  intro hk
  rw [take_oneE8 (by omega), kept_snoc]
  unfold rnN
  split
  · rw [putAll_snoc, ih (by omega)]
  · exact ih (by omega)
theorem mem_kept {pl : List Int} {es : List Ed} {x : Ed} : x ∈ kept pl es ↔ ∃ e ∈ es, inP pl e = true ∧ numE pl e = x := by
 unfold kept
 rw [List.mem_map]
 constructor
 · rintro ⟨e, he, rfl⟩
   obtain ⟨h1, h2⟩ := List.mem_filter.1 he
   exact ⟨e, h1, h2, rfl⟩
 · rintro ⟨e, h1, h2, rfl⟩
   exact ⟨e, List.mem_filter.2 ⟨h1, h2⟩, rfl⟩
theorem inP_iff {s : Nat} {zs : List Int} (h : plAll s zs zs.length = true) {e : Ed} (h1 : 0 ≤ e.1) (h2 : 0 ≤ e.2.2) : inP (plN s zs zs.length) e = true ↔ e.1 ∈ zs ∧ e.2.2 ∈ zs := by
 obtain ⟨p1, p2⟩ := pl_at _ h
 have key : ∀ v : Int, 0 ≤ v → (0 < (plN s zs zs.length).getD v.toNat 0 ↔ v ∈ zs) := by
  intro v hv
  constructor
  · intro hp
    obtain ⟨i, hi, e, _⟩ := p2 v.toNat (by omega)
    exact mem_getI.2 ⟨i, hi, by omega⟩
  · intro hm
    obtain ⟨i, hi, rfl⟩ := mem_getI.1 hm
    rw [(p1 i hi).2]; omega
 unfold inP
 rw [decide_eq_true_eq, key _ h1, key _ h2]
theorem numE_at {s : Nat} {zs : List Int} (h : plAll s zs zs.length = true) {e : Ed} {i j : Nat} (hi : i < zs.length) (hj : j < zs.length) (h1 : e.1 = zs.getD i 0) (h2 : e.2.2 = zs.getD j 0) : numE (plN s zs zs.length) e = ((i : Int), e.2.1, (j : Int)) := by
 obtain ⟨p1, p2⟩ := pl_at _ h
 unfold numE
 rw [h1, h2, (p1 i hi).2, (p1 j hj).2]
 congr 1
 · omega
 · congr 1; omega
theorem kept_nd {s : Nat} {zs : List Int} (h : plAll s zs zs.length = true) {es : List Ed} (ha : AscE es) (hE : EndsIn s es) : (kept (plN s zs zs.length) es).Nodup := by
 unfold kept
 have hn : es.Nodup := List.Pairwise.imp (fun {a b} hab e => by subst e; rw [cmpE_self] at hab; omega) ha
 rw [List.Nodup, List.pairwise_map]
 refine List.Pairwise.imp_of_mem ?_ (hn.filter _)
 intro a b ha hb hab e
 apply hab
 obtain ⟨a1, a2⟩ := List.mem_filter.1 ha
 obtain ⟨b1, b2⟩ := List.mem_filter.1 hb
 have ea := hE a a1
 have eb := hE b b1
 obtain ⟨am, an⟩ := (inP_iff h ea.1.1 ea.2.1).1 a2
 obtain ⟨bm, bn⟩ := (inP_iff h eb.1.1 eb.2.1).1 b2
 obtain ⟨i, hi, ei⟩ := mem_getI.1 am
 obtain ⟨j, hj, ej⟩ := mem_getI.1 an
 obtain ⟨k, hk, ek⟩ := mem_getI.1 bm
 obtain ⟨l, hl, el⟩ := mem_getI.1 bn
 rw [numE_at h hi hj ei.symm ej.symm, numE_at h hk hl ek.symm el.symm] at e
 simp only [Prod.mk.injEq] at e
 obtain ⟨e1, e2, e3⟩ := e
 have e4 : i = k := by omega
 have e5 : j = l := by omega
 subst e4; subst e5
 exact Prod.ext (ei.symm.trans ek) (Prod.ext e2 (ej.symm.trans el))
theorem rnE_put {r s : Int} {es : List Ed} {zs : List Int} (h : okN r s es zs = true) : rnE r s es zs = putAll [] (kept (plN s.toNat zs zs.length) es) := by
 unfold rnE
 rw [if_pos h, rnN_put _ _ _ (Nat.le_refl _), List.take_length]
theorem ren_asc {r s : Int} {es : List Ed} {zs : List Int} (h : okN r s es zs = true) : AscE (rnE r s es zs) := by
 rw [rnE_put h]; exact (putAll_spec _ [] List.Pairwise.nil).1
theorem okN_pl {r s : Int} {es : List Ed} {zs : List Int} (h : okN r s es zs = true) : plAll s.toNat zs zs.length = true := plAll_iff2.2 (okN_iff.1 h).2.2
theorem ren_mem {r s : Int} {es : List Ed} {zs : List Int} (h : okN r s es zs = true) {x : Ed} : x ∈ rnE r s es zs ↔ (0 ≤ x.1 ∧ x.1 < (zs.length : Int)) ∧ (0 ≤ x.2.2 ∧ x.2.2 < (zs.length : Int)) ∧ (zs.getD x.1.toNat 0, x.2.1, zs.getD x.2.2.toNat 0) ∈ es := by
 have hp := okN_pl h
 obtain ⟨hg, hz, hco⟩ := okN_iff.1 h
 have hE := endsIn_of hg
 rw [rnE_put h, (putAll_spec _ [] List.Pairwise.nil).2, mem_kept]
 constructor
 · rintro (h1 | ⟨e, he, h2, rfl⟩)
   · cases h1
   · have ee := hE e he
     obtain ⟨am, an⟩ := (inP_iff hp ee.1.1 ee.2.1).1 h2
     obtain ⟨i, hi, ei⟩ := mem_getI.1 am
     obtain ⟨j, hj, ej⟩ := mem_getI.1 an
     rw [numE_at hp hi hj ei.symm ej.symm]
     refine ⟨⟨by simp, by simp; omega⟩, ⟨by simp, by simp; omega⟩, ?_⟩
     simp only [Int.toNat_natCast]
     rw [ei, ej]
     exact he
 · rintro ⟨h1, h2, h3⟩
   refine .inr ⟨_, h3, ?_, ?_⟩
   · have ee := hE _ h3
     exact (inP_iff hp ee.1.1 ee.2.1).2 ⟨mem_getI.2 ⟨_, by omega, rfl⟩, mem_getI.2 ⟨_, by omega, rfl⟩⟩
   · rw [numE_at hp (i := x.1.toNat) (j := x.2.2.toNat) (by omega) (by omega) rfl rfl]
     exact Prod.ext (by simp; omega) (Prod.ext rfl (by simp; omega))
theorem ren_perm {r s : Int} {es : List Ed} {zs : List Int} (h : okN r s es zs = true) : (rnE r s es zs).Perm (kept (plN s.toNat zs zs.length) es) := by
 have hg := (okN_iff.1 h).1
 have hn : (rnE r s es zs).Nodup := List.Pairwise.imp (fun {a b} hab e => by subst e; rw [cmpE_self] at hab; omega) (ren_asc h)
 refine (List.perm_ext_iff_of_nodup hn (kept_nd (okN_pl h) (asc_of_gr hg) (endsIn_of hg))).2 fun x => ?_
 rw [rnE_put h, (putAll_spec _ [] List.Pairwise.nil).2]
 simp
theorem ren_sorted {r s : Int} {es ds : List Ed} {zs : List Int} (h : okN r s es zs = true) (hp : ds.Perm (kept (plN s.toNat zs zs.length) es)) (hs : ds.Pairwise (fun a b => ¬ cmpE b a < 0)) : ds = rnE r s es zs := by
 have hg := (okN_iff.1 h).1
 have hn : ds.Nodup := (List.Perm.nodup_iff hp).2 (kept_nd (okN_pl h) (asc_of_gr hg) (endsIn_of hg))
 refine ascE_ext ?_ (ren_asc h) fun x => ?_
 · refine List.Pairwise.imp ?_ (hs.and hn)
   rintro a b ⟨h1, h2⟩
   have := cmpE_neg a b
   rcases cmpE_cases a b with c | c | c
   · omega
   · exact absurd (cmpE_zero c) h2
   · omega
 · rw [hp.mem_iff, (ren_perm h).mem_iff]
theorem ren_gr {r s : Int} {es : List Ed} {zs : List Int} (h : okN r s es zs = true) : isGr r (zs.length : Int) (rnE r s es zs) = true := by
 obtain ⟨hg, hz, hco⟩ := okN_iff.1 h
 have hl := isGr_lim hg
 have := hco.len
 have := rnE_length r s es zs
 refine gr_of_asc8 (ren_asc h) (fun e he => ?_) ⟨hl.1, hl.2.1⟩ (by omega) (by omega)
 obtain ⟨h1, h2, h3⟩ := (ren_mem h).1 he
 exact ⟨h1, h2, (gr_mem8 hg h3).2.2⟩
theorem ren_ren {r s : Int} {es : List Ed} {zs os : List Int} (h : okN r s es zs = true) (h2 : okN r (zs.length : Int) (rnE r s es zs) os = true) : okN r s es (os.map fun i => zs.getD i.toNat 0) = true ∧ rnE r (zs.length : Int) (rnE r s es zs) os = rnE r s es (os.map fun i => zs.getD i.toNat 0) := by
 obtain ⟨hg, hz, hco⟩ := okN_iff.1 h
 obtain ⟨hg2, hz2, hco2⟩ := okN_iff.1 h2
 have hco3 : CoIn s.toNat (os.map fun i => zs.getD i.toNat 0) := by
  constructor
  · rw [List.Nodup, List.pairwise_map]
    refine List.Pairwise.imp_of_mem ?_ hco2.1
    intro a b ha hb hab e
    have a1 := hco2.2 a ha
    have b1 := hco2.2 b hb
    have := nd_inj hco.1 (by omega) (by omega) e
    omega
  · intro y hy
    obtain ⟨i, hi, rfl⟩ := List.mem_map.1 hy
    have := hco2.2 i hi
    exact hco.2 _ (mem_getI.2 ⟨_, by omega, rfl⟩)
 have hok : okN r s es (os.map fun i => zs.getD i.toNat 0) = true := okN_iff.2 ⟨hg, by rw [List.length_map]; exact hz2, hco3⟩
 refine ⟨hok, ascE_ext (ren_asc h2) (ren_asc hok) fun x => ?_⟩
 rw [ren_mem h2, ren_mem hok, List.length_map]
 have hat : ∀ i : Int, 0 ≤ i ∧ i < (os.length : Int) → (os.map fun i => zs.getD i.toNat 0).getD i.toNat 0 = zs.getD (os.getD i.toNat 0).toNat 0 ∧ (0 ≤ os.getD i.toNat 0 ∧ os.getD i.toNat 0 < (zs.length : Int)) := by
  intro i hi
  have hi2 : i.toNat < os.length := by omega
  refine ⟨?_, ?_⟩
  · rw [List.getD_eq_getElem?_getD, List.getElem?_map, List.getElem?_eq_getElem hi2, getD_of hi2]; rfl
  · have := hco2.2 _ (mem_getI.2 ⟨_, hi2, rfl⟩)
    omega
 constructor
 · rintro ⟨a, b, c⟩
   have c2 := (ren_mem h).1 c
   refine ⟨a, b, ?_⟩
   rw [(hat _ a).1, (hat _ b).1]
   exact c2.2.2
 · rintro ⟨a, b, c⟩
   refine ⟨a, b, (ren_mem h).2 ⟨(hat _ a).2, (hat _ b).2, ?_⟩⟩
   rw [(hat _ a).1, (hat _ b).1] at c
   exact c
theorem degE_perm {v : Int} {a b : List Ed} (h : a.Perm b) : degE v a = degE v b := by
 induction h with
 | nil => rfl
 | cons x _ ih => simp only [degE, ih]
 | swap x y l => simp only [degE]; omega
 | trans _ _ h1 h2 => exact h1.trans h2
def fil (zs : List Int) (es : List Ed) : List Ed := es.filter (fun e => decide (e.1 ∈ zs ∧ e.2.2 ∈ zs))
theorem mem_fil {zs : List Int} {es : List Ed} {e : Ed} : e ∈ fil zs es ↔ e ∈ es ∧ e.1 ∈ zs ∧ e.2.2 ∈ zs := by
 unfold fil
 rw [List.mem_filter, decide_eq_true_eq]
theorem fil_pos {zs : List Int} {es : List Ed} {e : Ed} (h : e.1 ∈ zs ∧ e.2.2 ∈ zs) : fil zs (e :: es) = e :: fil zs es := by
 unfold fil
 rw [List.filter_cons, if_pos (decide_eq_true h)]
theorem fil_neg {zs : List Int} {es : List Ed} {e : Ed} (h : ¬ (e.1 ∈ zs ∧ e.2.2 ∈ zs)) : fil zs (e :: es) = fil zs es := by
 unfold fil
 rw [List.filter_cons, if_neg (by rw [decide_eq_true_eq]; exact h)]
theorem kept_pos {pl : List Int} {es : List Ed} {e : Ed} (h : inP pl e = true) : kept pl (e :: es) = numE pl e :: kept pl es := by
 unfold kept
 rw [List.filter_cons, if_pos h, List.map_cons]
theorem kept_neg {pl : List Int} {es : List Ed} {e : Ed} (h : ¬ inP pl e = true) : kept pl (e :: es) = kept pl es := by
 unfold kept
 rw [List.filter_cons, if_neg h]
theorem deg_kept {s : Nat} {zs : List Int} (h : plAll s zs zs.length = true) {i : Nat} (hi : i < zs.length) : ∀ {es : List Ed}, EndsIn s es → degE (i : Int) (kept (plN s zs zs.length) es) = degE (zs.getD i 0) (fil zs es) := by
 intro es
 induction es with
 | nil => intro _; rfl
 | cons e es ih =>
  intro hE
  have ih' := ih fun x hx => hE x (List.mem_cons_of_mem _ hx)
  have ee := hE e List.mem_cons_self
  have hn := (plAll_iff2.1 h).1
  by_cases hc : inP (plN s zs zs.length) e = true
  · have hm := (inP_iff h ee.1.1 ee.2.1).1 hc
    rw [kept_pos hc, fil_pos hm, degE, degE, ih']
    obtain ⟨a, ha, ea⟩ := mem_getI.1 hm.1
    obtain ⟨b, hb, eb⟩ := mem_getI.1 hm.2
    rw [numE_at h ha hb ea.symm eb.symm, ← ea, ← eb]
    have k1 : ((a : Int) = (i : Int)) ↔ zs.getD a 0 = zs.getD i 0 := ⟨fun h => by rw [show a = i by omega], fun h => by rw [nd_inj hn ha hi h]⟩
    have k2 : ((b : Int) = (i : Int)) ↔ zs.getD b 0 = zs.getD i 0 := ⟨fun h => by rw [show b = i by omega], fun h => by rw [nd_inj hn hb hi h]⟩
    simp only [k1, k2]
  · have hm : ¬ (e.1 ∈ zs ∧ e.2.2 ∈ zs) := fun hm => hc ((inP_iff h ee.1.1 ee.2.1).2 hm)
    rw [kept_neg hc, fil_neg hm]
    exact ih'
theorem deg_ren {r s : Int} {es : List Ed} {zs : List Int} (h : okN r s es zs = true) {i : Nat} (hi : i < zs.length) : degE (i : Int) (rnE r s es zs) = degE (zs.getD i 0) (fil zs es) := by
 rw [degE_perm (ren_perm h), deg_kept (okN_pl h) hi (endsIn_of (okN_iff.1 h).1)]
theorem deg_mono {v : Int} {K L : List Int} (hK : ∀ y ∈ K, y ∈ L) : ∀ es : List Ed, degE v (fil K es) ≤ degE v (fil L es) := by
 intro es
 induction es with
 | nil => exact Int.le_refl _
 | cons e es ih =>
  by_cases h1 : e.1 ∈ K ∧ e.2.2 ∈ K
  · rw [fil_pos h1, fil_pos ⟨hK _ h1.1, hK _ h1.2⟩, degE, degE]
    omega
  · rw [fil_neg h1]
    by_cases h2 : e.1 ∈ L ∧ e.2.2 ∈ L
    · rw [fil_pos h2, degE]
      split <;> split <;> omega
    · rw [fil_neg h2]; exact ih
theorem deg_one {v : Int} : ∀ {G : List Ed} {e : Ed}, e ∈ G → e.1 = v ∨ e.2.2 = v → 1 ≤ degE v G := by
 intro G
 induction G with
 | nil => intro e he; cases he
 | cons x G ih =>
  intro e he hv
  have hb := (degE_bounds v G).1
  rw [degE]
  rcases List.mem_cons.1 he with rfl | he
  · rcases hv with hv | hv
    · rw [if_pos hv]; split <;> omega
    · rw [if_pos hv]; split <;> omega
  · have := ih he hv
    split <;> split <;> omega
theorem deg_uniq {v : Int} : ∀ {G : List Ed} {e x : Ed}, e ∈ G → x ∈ G → (e.1 = v ∨ e.2.2 = v) → (x.1 = v ∨ x.2.2 = v) → degE v G < 2 → e = x := by
 intro G
 induction G with
 | nil => intro e x he; cases he
 | cons y G ih =>
  intro e x he hx hev hxv hd
  have hb := (degE_bounds v G).1
  rw [degE] at hd
  rcases List.mem_cons.1 he with rfl | he2 <;> rcases List.mem_cons.1 hx with rfl | hx2
  · rfl
  · have := deg_one hx2 hxv
    exfalso
    rcases hev with h | h <;> rw [if_pos h] at hd <;> split at hd <;> omega
  · have := deg_one he2 hev
    exfalso
    rcases hxv with h | h <;> rw [if_pos h] at hd <;> split at hd <;> omega
  · exact ih he2 hx2 hev hxv (by split at hd <;> split at hd <;> omega)
def Con (es : List Ed) (a y : Int) : Prop := ∀ P : Int → Prop, P a → (∀ e ∈ es, P e.1 ↔ P e.2.2) → P y
theorem Con.mono {es fs : List Ed} (h : ∀ e ∈ es, e ∈ fs) {a y : Int} (hc : Con es a y) : Con fs a y := fun P h0 hP => hc P h0 fun e he => hP e (h e he)
theorem Con.start (es : List Ed) (a : Int) : Con es a a := fun P h0 _ => h0
theorem Con.both {es : List Ed} {a : Int} {e : Ed} (he : e ∈ es) : Con es a e.1 ↔ Con es a e.2.2 := ⟨fun h P h0 hP => (hP e he).1 (h P h0 hP), fun h P h0 hP => (hP e he).2 (h P h0 hP)⟩
theorem pass_con {es : List Ed} {P : Int → Prop} (hP : ∀ e ∈ es, P e.1 ↔ P e.2.2) : ∀ (fs : List Ed) (acc : List Int), (∀ e ∈ fs, e ∈ es) → (∀ y ∈ acc, P y) → ∀ y ∈ passE fs acc, P y := by
 intro fs
 induction fs with
 | nil => intro acc _ h; exact h
 | cons e fs ih =>
  intro acc hf h
  refine ih (touchE acc e) (fun x hx => hf x (List.mem_cons_of_mem _ hx)) fun y hy => ?_
  have he := hP e (hf e List.mem_cons_self)
  rcases mem_touchE.1 hy with h1 | ⟨h1, h2⟩
  · exact h y h1
  · have hb : P e.1 ∧ P e.2.2 := by
     rcases h1 with h1 | h1
     · exact ⟨h _ h1, he.1 (h _ h1)⟩
     · exact ⟨he.2 (h _ h1), h _ h1⟩
    rcases h2 with h2 | h2
    · rw [h2]; exact hb.1
    · rw [h2]; exact hb.2
theorem reach_con {s : Nat} {es : List Ed} {a : Int} (hE : EndsIn s es) (ha : 0 ≤ a ∧ a < (s : Int)) {y : Int} : y ∈ reachL es a ↔ Con es a y := by
 have hasc : [a].Pairwise (fun a b : Int => a < b) := List.pairwise_singleton _ _
 have hmem : ∀ k, a ∈ passN es k [a] := by
  intro k
  induction k with
  | zero => simp [passN]
  | succ k ih => exact sub_passE es ih
 have hfix : passE es (reachL es a) = reachL es a := by
  have h2 : ∃ j, j < es.length + 1 ∧ passE es (passN es j [a]) = passN es j [a] := by
   rcases passN_or_in (es := es) hasc (es.length + 1) with h | h
   · exact h
   · have := inC_le es (passN es (es.length + 1) [a]); omega
  obtain ⟨j, hj, h2⟩ := h2
  have b1 := passN_stay h2 (es.length + 1 - j)
  rw [show j + (es.length + 1 - j) = es.length + 1 by omega] at b1
  unfold reachL
  rw [b1, h2]
 constructor
 · intro hy P h0 hP
   have key : ∀ k, ∀ y ∈ passN es k [a], P y := by
    intro k
    induction k with
    | zero => intro y hy; rw [passN, List.mem_singleton] at hy; rw [hy]; exact h0
    | succ k ih => exact pass_con hP es _ (fun _ h => h) ih
   exact key _ y hy
 · intro hc
   refine hc (fun y => y ∈ reachL es a) (hmem _) fun e he => ?_
   constructor
   · intro h
     have := (pass_both (acc := reachL es a) he (.inl h)).2
     rw [hfix] at this; exact this
   · intro h
     have := (pass_both (acc := reachL es a) he (.inr h)).1
     rw [hfix] at this; exact this
theorem con_ren {r s : Int} {es : List Ed} {zs : List Int} (h : okN r s es zs = true) {i : Nat} (hi : i < zs.length) : Con (rnE r s es zs) 0 (i : Int) ↔ Con (fil zs es) (zs.getD 0 0) (zs.getD i 0) := by
 obtain ⟨hg, hz, hco⟩ := okN_iff.1 h
 constructor
 · intro hc P h0 hP
   have := hc (fun j => P (zs.getD j.toNat 0)) h0 fun x hx => ?_
   · simpa using this
   · obtain ⟨a, b, c⟩ := (ren_mem h).1 hx
     exact hP _ (mem_fil.2 ⟨c, mem_getI.2 ⟨_, by omega, rfl⟩, mem_getI.2 ⟨_, by omega, rfl⟩⟩)
 · intro hc P h0 hP
   have := hc (fun y => ∃ j, j < zs.length ∧ zs.getD j 0 = y ∧ P (j : Int)) ⟨0, by omega, rfl, h0⟩ fun e he => ?_
   · obtain ⟨j, hj, e, hp⟩ := this
     have := nd_inj hco.1 hj hi e
     subst this; exact hp
   · obtain ⟨e1, e2, e3⟩ := mem_fil.1 he
     obtain ⟨a, ha, ea⟩ := mem_getI.1 e2
     obtain ⟨b, hb, eb⟩ := mem_getI.1 e3
     have hx : ((a : Int), e.2.1, (b : Int)) ∈ rnE r s es zs := (ren_mem h).2 ⟨⟨by simp, by simp; omega⟩, ⟨by simp, by simp; omega⟩, by simp only [Int.toNat_natCast]; rw [ea, eb]; exact e1⟩
     have hab := hP _ hx
     constructor
     · rintro ⟨j, hj, e, hp⟩
       have := nd_inj hco.1 hj ha (by rw [e, ea])
       subst this
       exact ⟨b, hb, eb, hab.1 hp⟩
     · rintro ⟨j, hj, e, hp⟩
       have := nd_inj hco.1 hj hb (by rw [e, eb])
       subst this
       exact ⟨a, ha, ea, hab.2 hp⟩
theorem con_leaf {es : List Ed} {L M : List Int} {v : Int} (hM : ∀ y, y ∈ M ↔ y ∈ L ∧ y ≠ v) (h0 : v ≠ 0) (hd : degE v (fil L es) < 2) {y : Int} (hy : y ≠ v) (hc : Con (fil L es) 0 y) : Con (fil M es) 0 y := by
 have hin : ∀ e ∈ fil L es, e.1 ≠ v → e.2.2 ≠ v → e ∈ fil M es := fun e he h1 h2 => by
  obtain ⟨a, b, c⟩ := mem_fil.1 he
  exact mem_fil.2 ⟨a, (hM _).2 ⟨b, h1⟩, (hM _).2 ⟨c, h2⟩⟩
 have := hc (fun y => (y ≠ v → Con (fil M es) 0 y) ∧ (y = v → ∀ e ∈ fil L es, (e.1 = v → e.2.2 ≠ v → Con (fil M es) 0 e.2.2) ∧ (e.2.2 = v → e.1 ≠ v → Con (fil M es) 0 e.1))) ⟨fun _ => Con.start _ _, fun h => absurd h.symm h0⟩ fun e he => ?_
 · exact this.1 hy
 · by_cases h1 : e.1 = v <;> by_cases h2 : e.2.2 = v
   · rw [h1, h2]
   · constructor
     · rintro ⟨_, b⟩
       exact ⟨fun _ => (b h1 e he).1 h1 h2, fun h => absurd h h2⟩
     · rintro ⟨a, _⟩
       refine ⟨fun h => absurd h1 h, fun _ x hx => ?_⟩
       have ha := a h2
       constructor
       · intro x1 x2
         have := deg_uniq he hx (.inl h1) (.inl x1) hd
         subst this; exact ha
       · intro x1 x2
         have := deg_uniq he hx (.inl h1) (.inr x1) hd
         subst this; exact absurd x1 h2
   · constructor
     · rintro ⟨a, _⟩
       refine ⟨fun h => absurd h2 h, fun _ x hx => ?_⟩
       have ha := a h1
       constructor
       · intro x1 x2
         have := deg_uniq he hx (.inr h2) (.inl x1) hd
         subst this; exact absurd x1 h1
       · intro x1 x2
         have := deg_uniq he hx (.inr h2) (.inr x1) hd
         subst this; exact ha
     · rintro ⟨_, b⟩
       exact ⟨fun _ => (b h2 e he).2 h2 h1, fun h => absurd h h1⟩
   · have hb := Con.both (a := 0) (hin e he h1 h2)
     constructor
     · rintro ⟨a, _⟩; exact ⟨fun _ => hb.1 (a h1), fun h => absurd h h2⟩
     · rintro ⟨a, _⟩; exact ⟨fun _ => hb.2 (a h2), fun h => absurd h h1⟩
theorem mem_oth {v y : Int} : ∀ {k : Nat}, y ∈ othN v k ↔ 0 ≤ y ∧ y < (k : Int) ∧ y ≠ v := by
 intro k
 induction k with
 | zero =>
  constructor
  · intro h; cases h
  · rintro ⟨h1, h2, _⟩; omega
 | succ k ih =>
  unfold othN
  by_cases e : (k : Int) = v
  · rw [if_pos e, ih]
    constructor
    · rintro ⟨a, b, c⟩; exact ⟨a, by omega, c⟩
    · rintro ⟨a, b, c⟩; exact ⟨a, by omega, c⟩
  · rw [if_neg e, List.mem_append, ih, List.mem_singleton]
    constructor
    · rintro (⟨a, b, c⟩ | rfl)
      · exact ⟨a, by omega, c⟩
      · exact ⟨by omega, by omega, e⟩
    · rintro ⟨a, b, c⟩
      by_cases h : y = (k : Int)
      · exact .inr h
      · exact .inl ⟨a, by omega, c⟩
theorem asc_oth (v : Int) : ∀ k : Nat, (othN v k).Pairwise (· < ·) := by
 intro k
 induction k with
 | zero => exact List.Pairwise.nil
 | succ k ih =>
  unfold othN
  split
  · exact ih
  · rw [List.pairwise_append]
    refine ⟨ih, List.pairwise_singleton _ _, fun a ha b hb => ?_⟩
    rw [List.mem_singleton] at hb
    have := mem_oth.1 ha
    omega
theorem resN_map (v : Int) (l : List Int) : ∀ k, resN v l k = (othN v k).map (fun i => l.getD i.toNat 0) := by
 intro k
 induction k with
 | zero => rfl
 | succ k ih =>
  unfold resN othN
  split
  · exact ih
  · rw [List.map_append, ih]; rfl
theorem up_len (n : Nat) : (upN n).length = n := by simp [upN]
theorem up_at {n i : Nat} (h : i < n) : (upN n).getD i 0 = (i : Int) := by
 rw [getD_of (by rw [up_len]; exact h)]
 simp [upN]
theorem mem_up {n : Nat} {y : Int} : y ∈ upN n ↔ 0 ≤ y ∧ y < (n : Int) := by
 rw [mem_getI]
 constructor
 · rintro ⟨i, hi, rfl⟩
   rw [up_len] at hi
   rw [up_at hi]; omega
 · rintro ⟨h1, h2⟩
   exact ⟨y.toNat, by rw [up_len]; omega, by rw [up_at (by omega)]; omega⟩
theorem asc_lt8 {l : List Int} (h : l.Pairwise (· < ·)) {i j : Nat} (hij : i < j) (hj : j < l.length) : l.getD i 0 < l.getD j 0 := by
 rw [getD_of (by omega : i < l.length), getD_of hj]
 exact List.pairwise_iff_getElem.1 h i j (by omega) hj hij
theorem asc_up (n : Nat) : (upN n).Pairwise (· < ·) := by
 rw [List.pairwise_iff_getElem]
 intro i j hi hj hij
 rw [← getD_of hi, ← getD_of hj]
 rw [up_len] at hi hj
 rw [up_at hi, up_at hj]; omega
theorem asc_res {l : List Int} (h : l.Pairwise (· < ·)) (v : Int) : (resN v l l.length).Pairwise (· < ·) := by
 rw [resN_map, List.pairwise_map]
 refine List.Pairwise.imp_of_mem ?_ (asc_oth v l.length)
 intro a b ha hb hab
 have a1 := mem_oth.1 ha
 have b1 := mem_oth.1 hb
 exact asc_lt8 h (by omega) (by omega)
theorem mem_res {l : List Int} (h : l.Pairwise (· < ·)) {v : Int} (hv : 0 ≤ v ∧ v < (l.length : Int)) {y : Int} : y ∈ resN v l l.length ↔ y ∈ l ∧ y ≠ l.getD v.toNat 0 := by
 rw [resN_map, List.mem_map]
 constructor
 · rintro ⟨i, hi, rfl⟩
   have hi := mem_oth.1 hi
   refine ⟨mem_getI.2 ⟨_, by omega, rfl⟩, fun e => ?_⟩
   have := nd_inj (asc_nd h) (by omega) (by omega) e
   omega
 · rintro ⟨hy, hne⟩
   obtain ⟨i, hi, rfl⟩ := mem_getI.1 hy
   refine ⟨(i : Int), mem_oth.2 ⟨by omega, by omega, fun e => hne ?_⟩, by simp⟩
   rw [show v.toNat = i by omega]
theorem res_len {l : List Int} {v : Int} (hv : 0 ≤ v ∧ v < (l.length : Int)) : (resN v l l.length).length + 1 = l.length := by
 rw [resN_length]; exact othN_ne hv
theorem res_td (v : Nat) (l : List Int) : ∀ k, k ≤ l.length → resN (v : Int) l k = if k ≤ v then l.take k else l.take v ++ (l.drop (v + 1)).take (k - (v + 1)) := by
 intro k
 induction k with
 | zero => intro _; rfl
 | succ k ih =>
  intro hk
  unfold resN
  have ih' := ih (by omega)
  by_cases e : (k : Int) = (v : Int)
  · rw [if_pos e, ih', if_pos (by omega), if_neg (by omega), show k = v by omega]
    simp
  · rw [if_neg e, ih']
    by_cases c : k ≤ v
    · rw [if_pos c, if_pos (by omega), List.take_add_one, List.getElem?_eq_getElem (by omega), getD_of (by omega)]; rfl
    · rw [if_neg c, if_neg (by omega), List.append_assoc]
      congr 1
      rw [show k + 1 - (v + 1) = (k - (v + 1)) + 1 by omega, List.take_add_one, List.getElem?_drop, show v + 1 + (k - (v + 1)) = k by omega, List.getElem?_eq_getElem (by omega), getD_of (by omega)]; rfl
theorem res_td2 (v : Nat) (l : List Int) (hv : v < l.length) : resN (v : Int) l l.length = l.take v ++ l.drop (v + 1) := by
 rw [res_td v l _ (Nat.le_refl _), if_neg (by omega)]
 congr 1
 rw [List.take_of_length_le]
 rw [List.length_drop]; omega
def Good (s : Int) (es : List Ed) (K : List Int) : Prop := ∀ y ∈ K, (0 ≤ y ∧ y < s) ∧ (y ≠ 0 → 2 ≤ degE y (fil K es) ∧ Con (fil K es) 0 y)
structure Sub (s : Int) (es : List Ed) (l : List Int) : Prop where
 co : CoIn s.toNat l
 asc : l.Pairwise (· < ·)
 zero : 0 ∈ l
 big : ∀ K, Good s es K → ∀ y ∈ K, y ∈ l
theorem Sub.ok {r s : Int} {es : List Ed} {l : List Int} (h : Sub s es l) (hg : isGr r s es = true) : okN r s es l = true := by
 refine okN_iff.2 ⟨hg, ?_, h.co⟩
 obtain ⟨i, hi, _⟩ := mem_getI.1 h.zero
 omega
theorem Sub.head {s : Int} {es : List Ed} {l : List Int} (h : Sub s es l) : l.getD 0 0 = 0 ∧ 0 < l.length := by
 obtain ⟨i, hi, e⟩ := mem_getI.1 h.zero
 refine ⟨?_, by omega⟩
 rcases Nat.eq_zero_or_pos i with c | c
 · subst c; exact e
 · have h1 := asc_lt8 h.asc c hi
   have h2 := h.co.2 _ (mem_getI.2 ⟨0, by omega, rfl⟩)
   omega
theorem Sub.step {r s : Int} {es : List Ed} {l : List Int} (h : Sub s es l) (hg : isGr r s es = true) {v : Int} (hv : 1 ≤ v ∧ v < (l.length : Int)) (hd : degE v (rnE r s es l) < 2 ∨ ¬ Con (rnE r s es l) 0 v) : Sub s es (resN v l l.length) := by
 have hm := fun y => mem_res h.asc (v := v) (by omega) (y := y)
 have hok := h.ok hg
 have hd0 := h.head
 have hv0 : 0 < l.getD v.toNat 0 := by
  have := asc_lt8 h.asc (i := 0) (j := v.toNat) (by omega) (by omega)
  omega
 refine ⟨⟨asc_nd (asc_res h.asc v), fun y hy => h.co.2 y ((hm y).1 hy).1⟩, asc_res h.asc v, (hm 0).2 ⟨h.zero, by omega⟩, fun K hK y hy => (hm y).2 ⟨h.big K hK y hy, fun e => ?_⟩⟩
 have hKl := h.big K hK
 have hg1 := (hK y hy).2 (by omega)
 rw [show v = ((v.toNat : Nat) : Int) by omega, deg_ren hok (by omega), con_ren hok (by omega), hd0.1, ← e] at hd
 rcases hd with hd | hd
 · have := deg_mono (v := y) hKl es
   omega
 · refine hd (hg1.2.mono fun x hx => ?_)
   obtain ⟨a, b, c⟩ := mem_fil.1 hx
   exact mem_fil.2 ⟨a, hKl _ b, hKl _ c⟩
theorem leafB_iff {r s : Int} {es : List Ed} (hg : isGr r s es = true) {v : Int} : leafB r s es v = true ↔ degE v es < 2 ∨ ¬ Con es 0 v := by
 have hl := isGr_lim hg
 unfold leafB
 have hr : reachG r s es 0 = reachL es 0 := by
  unfold reachG
  rw [if_pos]
  rw [hg]
  exact decide_eq_true (by omega)
 rw [hr, Bool.or_eq_true, decide_eq_true_eq, Bool.not_eq_true', decide_eq_false_iff_not, reach_con (endsIn_of hg) (by omega)]
theorem lfN_no {r s : Int} {es : List Ed} : ∀ g v, 0 ≤ v → lfN r s es v g < 0 → ∀ u, v ≤ u → u < v + g → leafB r s es u = false := by
 intro g
 induction g with
 | zero => intro v _ _ u h1 h2; omega
 | succ g ih =>
  intro v h0 h u h1 h2
  unfold lfN at h
  by_cases c : leafB r s es v = true
  · rw [if_pos c] at h; omega
  · rw [if_neg c] at h
    by_cases e : u = v
    · subst e; simpa using c
    · exact ih (v + 1) (by omega) h u (by omega) (by omega)
theorem lfN_yes {r s : Int} {es : List Ed} : ∀ g v, 0 ≤ lfN r s es v g → leafB r s es (lfN r s es v g) = true := by
 intro g
 induction g with
 | zero => intro v h; change 0 ≤ (-1 : Int) at h; omega
 | succ g ih =>
  intro v h
  unfold lfN at h ⊢
  by_cases c : leafB r s es v = true
  · rw [if_pos c]; exact c
  · rw [if_neg c] at h ⊢; exact ih _ h
structure MoIn (r s : Int) (es : List Ed) (x : TrSt) : Prop where
 sub : Sub s es x.l
 sz : x.s = (x.l.length : Int)
 ed : x.es = rnE r s es x.l
theorem good_in {s : Int} {es : List Ed} {K : List Int} (h : Good s es K) {y : Int} (hy : y ∈ K) : 0 ≤ y ∧ y < s := (h y hy).1
theorem mo_start {r s : Int} {es : List Ed} (hg : isGr r s es = true) : MoIn r s es ⟨s, es, upN s.toNat⟩ := by
 have hl := isGr_lim hg
 have hsub : Sub s es (upN s.toNat) := ⟨⟨asc_nd (asc_up _), fun y hy => mem_up.1 hy⟩, asc_up _, mem_up.2 (by omega), fun K hK y hy => mem_up.2 (by have := good_in hK hy; omega)⟩
 refine ⟨hsub, by show s = _; rw [up_len]; omega, ?_⟩
 have hok := hsub.ok hg
 refine ascE_ext (asc_of_gr hg) (ren_asc hok) fun x => ?_
 show x ∈ es ↔ x ∈ rnE r s es (upN s.toNat)
 rw [ren_mem hok, up_len]
 constructor
 · intro hx
   have h := gr_mem8 hg hx
   refine ⟨by omega, by omega, ?_⟩
   rw [up_at (by omega), up_at (by omega)]
   have : ((x.1.toNat : Int), x.2.1, (x.2.2.toNat : Int)) = x := Prod.ext (by simp; omega) (Prod.ext rfl (by simp; omega))
   rw [this]; exact hx
 · rintro ⟨h1, h2, h3⟩
   rw [up_at (by omega), up_at (by omega)] at h3
   have : ((x.1.toNat : Int), x.2.1, (x.2.2.toNat : Int)) = x := Prod.ext (by simp; omega) (Prod.ext rfl (by simp; omega))
   rw [this] at h3; exact h3
theorem mo_step {r s : Int} {es : List Ed} (hg : isGr r s es = true) {x : TrSt} (h : MoIn r s es x) : MoIn r s es (trS1 r x) ∧ (0 ≤ lf r x.s x.es → (trS1 r x).l.length + 1 = x.l.length) := by
 unfold trS1
 by_cases c : lf r x.s x.es < 0
 · rw [if_pos c]; exact ⟨h, fun h2 => by omega⟩
 · rw [if_neg c]
   have hok := h.sub.ok hg
   have hg2 : isGr r x.s x.es = true := by rw [h.sz, h.ed]; exact ren_gr hok
   obtain ⟨v, hv⟩ := exq (lf r x.s x.es)
   have hor := lf_or r x.s x.es
   have hleaf : leafB r x.s x.es v = true := by
    rw [hv]; unfold lf at c ⊢; exact lfN_yes _ _ (by omega)
   rw [← hv] at c hor ⊢
   have hvr : 1 ≤ v ∧ v < x.s := by omega
   have hxs := h.sz
   have hn : x.s.toNat = x.l.length := by omega
   have hst := h.sub.step hg (v := v) (by omega) (by rw [leafB_iff hg2, h.ed] at hleaf; exact hleaf)
   have hln := othN_ne (v := v) (k := x.l.length) (by omega)
   have hok2 : okN r (x.l.length : Int) (rnE r s es x.l) (othN v x.l.length) = true := by
    refine okN_iff.2 ⟨ren_gr hok, by omega, asc_nd (asc_oth _ _), fun y hy => ?_⟩
    have := mem_oth.1 hy
    omega
   have hrr := ren_ren hok hok2
   rw [← resN_map] at hrr
   rw [hn]
   refine ⟨⟨hst, ?_, ?_⟩, fun _ => ?_⟩
   · show rnS r x.s x.es (othN v x.l.length) = ((resN v x.l x.l.length).length : Int)
     rw [hxs, h.ed]
     unfold rnS
     rw [if_pos hok2, resN_length]
   · show rnE r x.s x.es (othN v x.l.length) = _
     rw [hxs, h.ed]
     exact hrr.2
   · exact res_len (by omega)
theorem mo_all {r s : Int} {es : List Ed} (hg : isGr r s es = true) : ∀ i, MoIn r s es (trN r s es i) := by
 intro i
 induction i with
 | zero => exact mo_start hg
 | succ i ih => exact (mo_step hg ih).1
theorem mo_cnt {r s : Int} {es : List Ed} (hg : isGr r s es = true) : ∀ i, lf r (trN r s es i).s (trN r s es i).es < 0 ∨ ((trN r s es (i + 1)).l.length + (i + 1) : Int) = s := by
 intro i
 induction i with
 | zero =>
  by_cases c : lf r (trN r s es 0).s (trN r s es 0).es < 0
  · exact .inl c
  · right
    have h := (mo_step hg (mo_all hg 0)).2 (by omega)
    change (trN r s es 1).l.length + 1 = (upN s.toNat).length at h
    rw [up_len] at h
    have := isGr_lim hg
    show ((trN r s es 1).l.length + (0 + 1) : Int) = s
    omega
 | succ i ih =>
  by_cases c : lf r (trN r s es (i + 1)).s (trN r s es (i + 1)).es < 0
  · exact .inl c
  · right
    rcases ih with ih | ih
    · exfalso
      have := trN_stop r s es ih 1
      rw [this] at c
      exact c ih
    · have h := (mo_step hg (mo_all hg (i + 1))).2 (by omega)
      change (trN r s es (i + 1 + 1)).l.length + 1 = (trN r s es (i + 1)).l.length at h
      push_cast at ih ⊢
      omega
theorem mo_end {r s : Int} {es : List Ed} (hg : isGr r s es = true) : lf r (trN r s es 40).s (trN r s es 40).es < 0 := by
 rcases mo_cnt hg 40 with h | h
 · exact h
 · have := isGr_lim hg
   omega
theorem mo_good {r s : Int} {es : List Ed} (hg : isGr r s es = true) {x : TrSt} (h : MoIn r s es x) (he : lf r x.s x.es < 0) : Good s es x.l := by
 have hok := h.sub.ok hg
 have hg2 : isGr r x.s x.es = true := by rw [h.sz, h.ed]; exact ren_gr hok
 have hl := isGr_lim hg
 intro y hy
 have hyr := h.sub.co.2 y hy
 refine ⟨by omega, fun hy0 => ?_⟩
 obtain ⟨i, hi, e⟩ := mem_getI.1 hy
 have hd0 := h.sub.head
 have hi0 : i ≠ 0 := fun c => by subst c; omega
 have hno := lfN_no _ _ (by omega) he (i : Int) (by omega) (by have := h.sz; omega)
 have hn2 : ¬ leafB r x.s x.es (i : Int) = true := by rw [hno]; simp
 rw [leafB_iff hg2, h.ed, deg_ren hok hi, con_ren hok hi, hd0.1, e] at hn2
 constructor
 · omega
 · exact Classical.byContradiction fun hc => hn2 (.inr hc)
def ldN (es : List Ed) (v : Int) : Nat → Int
 | 0 => -1
 | g + 1 => if degE v es < 2 then v else ldN es (v + 1) g
def ld (s : Int) (es : List Ed) : Int := ldN es 1 (s - 1).toNat
theorem ldN_no {es : List Ed} : ∀ g v, 0 ≤ v → ldN es v g < 0 → ∀ u, v ≤ u → u < v + g → 2 ≤ degE u es := by
 intro g
 induction g with
 | zero => intro v _ _ u h1 h2; omega
 | succ g ih =>
  intro v h0 h u h1 h2
  unfold ldN at h
  by_cases c : degE v es < 2
  · rw [if_pos c] at h; omega
  · rw [if_neg c] at h
    by_cases e : u = v
    · subst e; omega
    · exact ih (v + 1) (by omega) h u (by omega) (by omega)
theorem ldN_yes {es : List Ed} : ∀ g v, 0 ≤ ldN es v g → degE (ldN es v g) es < 2 := by
 intro g
 induction g with
 | zero => intro v h; change 0 ≤ (-1 : Int) at h; omega
 | succ g ih =>
  intro v h
  unfold ldN at h ⊢
  by_cases c : degE v es < 2
  · rw [if_pos c]; exact c
  · rw [if_neg c] at h ⊢; exact ih _ h
theorem ldN_or (es : List Ed) : ∀ g v, ldN es v g = -1 ∨ (v ≤ ldN es v g ∧ ldN es v g < v + g) := by
 intro g
 induction g with
 | zero => intro v; exact .inl rfl
 | succ g ih =>
  intro v
  unfold ldN
  split
  · right; omega
  · rcases ih (v + 1) with h | h
    · exact .inl h
    · right; omega
theorem ld_or (s : Int) (es : List Ed) : ld s es = -1 ∨ (1 ≤ ld s es ∧ ld s es < s) := by
 rcases ldN_or es (s - 1).toNat 1 with h | h
 · exact .inl h
 · right; unfold ld; omega
structure PrIn (s : Int) (es : List Ed) (l : List Int) : Prop where
 sub : Sub s es l
 con : ∀ y ∈ l, Con (fil l es) 0 y
theorem pr_start {r s : Int} {es : List Ed} (hg : isGr r s es = true) : PrIn s es (reachG r s es 0) := by
 have hl := isGr_lim hg
 have hE := endsIn_of hg
 have hr : reachG r s es 0 = reachL es 0 := by
  unfold reachG
  rw [if_pos]
  rw [hg]
  exact decide_eq_true (by omega)
 have hm := fun y => reach_con hE (a := 0) (by omega) (y := y)
 have hasc : (reachL es 0).Pairwise (· < ·) := by
  rw [← upTo_all hE (by omega)]; exact asc_upTo _
 rw [hr]
 refine ⟨⟨⟨asc_nd hasc, fun y hy => ?_⟩, hasc, (hm 0).2 (Con.start _ _), fun K hK y hy => ?_⟩, fun y hy => ?_⟩
 · rw [← upTo_all hE (by omega)] at hy
   exact (mem_upTo.1 hy).2
 · by_cases h0 : y = 0
   · rw [h0]; exact (hm 0).2 (Con.start _ _)
   · exact (hm y).2 (((hK y hy).2 h0).2.mono fun x hx => (mem_fil.1 hx).1)
 · have := (hm y).1 hy
   have := this (fun z => Con es 0 z ∧ Con (fil (reachL es 0) es) 0 z) ⟨Con.start _ _, Con.start _ _⟩ fun e he => ?_
   · exact this.2
   · have hb := Con.both (a := 0) he
     constructor
     · rintro ⟨a, b⟩
       exact ⟨hb.1 a, (Con.both (a := 0) (mem_fil.2 ⟨he, (hm _).2 a, (hm _).2 (hb.1 a)⟩)).1 b⟩
     · rintro ⟨a, b⟩
       exact ⟨hb.2 a, (Con.both (a := 0) (mem_fil.2 ⟨he, (hm _).2 (hb.2 a), (hm _).2 a⟩)).2 b⟩
theorem pr_step {r s : Int} {es : List Ed} (hg : isGr r s es = true) {l : List Int} (h : PrIn s es l) {v : Int} (hv : v = ld (l.length : Int) (rnE r s es l)) (h0 : 0 ≤ v) : PrIn s es (resN v l l.length) ∧ (1 ≤ v ∧ v < (l.length : Int)) := by
 have hok := h.sub.ok hg
 have hor := ld_or (l.length : Int) (rnE r s es l)
 have hd : degE v (rnE r s es l) < 2 := by
  rw [hv] at h0 ⊢
  unfold ld at h0 ⊢
  exact ldN_yes _ _ h0
 have hvr : 1 ≤ v ∧ v < (l.length : Int) := by omega
 have hd0 := h.sub.head
 have hd2 := hd
 rw [show v = ((v.toNat : Nat) : Int) by omega, deg_ren hok (by omega)] at hd2
 have hv0 : 0 < l.getD v.toNat 0 := by
  have := asc_lt8 h.sub.asc (i := 0) (j := v.toNat) (by omega) (by omega)
  omega
 refine ⟨⟨h.sub.step hg hvr (.inl hd), fun y hy => ?_⟩, hvr⟩
 have hm := fun y => mem_res h.sub.asc (v := v) (by omega) (y := y)
 have hy2 := (hm y).1 hy
 exact con_leaf hm (by omega) hd2 hy2.2 (h.con y hy2.1)
theorem pr_end {r s : Int} {es : List Ed} (hg : isGr r s es = true) {l : List Int} (h : PrIn s es l) (he : ld (l.length : Int) (rnE r s es l) < 0) : l = tmL r s es ∧ (l.length : Int) = tmS r s es ∧ rnE r s es l = tmE r s es := by
 have hok := h.sub.ok hg
 have hl := isGr_lim hg
 have hd0 := h.sub.head
 have hgood : Good s es l := by
  intro y hy
  have hyr := h.sub.co.2 y hy
  refine ⟨by omega, fun hy0 => ⟨?_, h.con y hy⟩⟩
  obtain ⟨i, hi, e⟩ := mem_getI.1 hy
  have hi0 : i ≠ 0 := fun c => by subst c; omega
  have := ldN_no _ _ (by omega) he (i : Int) (by omega) (by omega)
  rw [deg_ren hok hi, e] at this
  exact this
 have hmo := mo_all hg 40
 have hmg := mo_good hg hmo (mo_end hg)
 have heq : l = (trN r s es 40).l := asc_ext h.sub.asc hmo.sub.asc fun y => ⟨fun hy => hmo.sub.big l hgood y hy, fun hy => h.sub.big _ hmg y hy⟩
 unfold tmL tmS tmE
 rw [if_pos hg, if_pos hg, if_pos hg]
 exact ⟨heq, by rw [hmo.sz, heq], by rw [hmo.ed, heq]⟩
theorem tm_all {r s : Int} {es : List Ed} (hg : isGr r s es = true) : ((tmL r s es).length : Int) = s ↔ lf r s es < 0 := by
 have hl := isGr_lim hg
 unfold tmL
 rw [if_pos hg]
 constructor
 · intro h
   rcases mo_cnt hg 0 with c | c
   · exact c
   · exfalso
     have key : ∀ j, (trN r s es (1 + j)).l.length ≤ (trN r s es 1).l.length := by
      intro j
      induction j with
      | zero => exact Nat.le_refl _
      | succ j ih =>
       have h2 := mo_step hg (mo_all hg (1 + j))
       by_cases c2 : lf r (trN r s es (1 + j)).s (trN r s es (1 + j)).es < 0
       · have := trN_stop r s es c2 1
         rw [show 1 + (j + 1) = 1 + j + 1 by omega, this]; exact ih
       · have := h2.2 (by omega)
         change (trN r s es (1 + j + 1)).l.length + 1 = _ at this
         rw [show 1 + (j + 1) = 1 + j + 1 by omega]
         omega
     have := key 39
     change (trN r s es 40).l.length ≤ _ at this
     change ((trN r s es 1).l.length + (0 + 1) : Int) = s at c
     omega
 · intro h
   have : trN r s es (0 + 40) = trN r s es 0 := trN_stop r s es (i := 0) h 40
   rw [Nat.zero_add] at this
   rw [this]
   show ((upN s.toNat).length : Int) = s
   rw [up_len]; omega
theorem tmL_length (r s : Int) (es : List Ed) : (tmL r s es).length ≤ 40 := by
 unfold tmL
 by_cases hg : isGr r s es = true
 · rw [if_pos hg]
   have := (mo_all hg 40).sub.co.len
   have := isGr_lim hg
   omega
 · rw [if_neg hg]; simp
theorem tm_gr {r s : Int} {es : List Ed} (hg : isGr r s es = true) : isGr r (tmS r s es) (tmE r s es) = true := by
 unfold tmS tmE
 rw [if_pos hg, if_pos hg]
 have h := mo_all hg 40
 rw [h.sz, h.ed]
 exact ren_gr (h.sub.ok hg)
end Go.Proofs.YtpjlamnjiilgbaaGreat
