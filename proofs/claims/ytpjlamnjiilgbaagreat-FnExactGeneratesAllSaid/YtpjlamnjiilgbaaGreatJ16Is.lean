import Derived.Test.YtpjlamnjiilgbaaGreatJ15Is
import Derived.Test.YtpjlamnjiilgbaaGreatJ14Is
import Derived.Test.YtpjlamnjiilgbaaGreatJ12Is
import Derived.Test.YtpjlamnjiilgbaaGreatJ3Is
namespace Go.Proofs.YtpjlamnjiilgbaaGreat
open Go.RowKit
set_option linter.unusedVariables false
set_option linter.unusedSimpArgs false
theorem stepAt_mem {es : List Ed} {v l y : Int} : StepAt es v l y ↔ ∃ e ∈ es, (v = e.1 ∧ l = e.2.1 ∧ y = e.2.2) ∨ (v = e.2.2 ∧ l = -e.2.1 ∧ y = e.1) := by
 unfold StepAt
 rw [mem_getD]
theorem fold_iff {es : List Ed} (hn : es.Nodup) : foldB es es.length = true ↔ ∀ a ∈ es, ∀ b ∈ es, a ≠ b → ¬ Meets a b := by
 rw [foldB_iff]
 constructor
 · intro h a ha b hb hab hm
   obtain ⟨i, hi, rfl⟩ := List.getElem_of_mem ha
   obtain ⟨j, hj, rfl⟩ := List.getElem_of_mem hb
   rcases Nat.lt_trichotomy i j with c | c | c
   · refine h j hj i c ?_
     rw [getE_el hi, getE_el hj]
     exact ⟨hm.1.symm, hm.2.imp Eq.symm Eq.symm⟩
   · subst c; exact hab rfl
   · refine h i hi j c ?_
     rw [getE_el hi, getE_el hj]
     exact hm
 · intro h i hi k hk hm
   rw [getE_el hi, getE_el (by omega : k < es.length)] at hm
   refine h _ (List.getElem_mem hi) _ (List.getElem_mem (by omega)) (fun e => ?_) hm
   have := (List.pairwise_iff_getElem.1 hn) k i (by omega) hi hk
   exact this e.symm
theorem ascE_nd {es : List Ed} (h : AscE es) : es.Nodup := List.Pairwise.imp (fun {a b} hab e => by subst e; rw [cmpE_self] at hab; omega) h
theorem fo_gr {r s : Int} {es : List Ed} (h : isFo r s es = true) : isGr r s es = true ∧ foldB es es.length = true := by unfold isFo at h; rw [Bool.and_eq_true] at h; exact h
theorem ren_fo {r s : Int} {es : List Ed} {zs : List Int} (hf : isFo r s es = true) (h : okN r s es zs = true) : isFo r (zs.length : Int) (rnE r s es zs) = true := by
 obtain ⟨hg, hz, hco⟩ := okN_iff.1 h
 unfold isFo
 rw [ren_gr h, Bool.true_and, fold_iff (ascE_nd (ren_asc h))]
 intro a ha b hb hab hm
 obtain ⟨a1, a2, a3⟩ := (ren_mem h).1 ha
 obtain ⟨b1, b2, b3⟩ := (ren_mem h).1 hb
 refine (fold_iff (ascE_nd (asc_of_gr hg))).1 (fo_gr hf).2 _ a3 _ b3 (fun e => hab ?_) ?_
 · simp only [Prod.mk.injEq] at e
   obtain ⟨e1, e2, e3⟩ := e
   have h1 := nd_inj hco.1 (by omega) (by omega) e1
   have h3 := nd_inj hco.1 (by omega) (by omega) e3
   exact Prod.ext (by omega) (Prod.ext e2 (by omega))
 · refine ⟨hm.1, ?_⟩
   rcases hm.2 with h1 | h1
   · left; show zs.getD a.1.toNat 0 = zs.getD b.1.toNat 0; rw [h1]
   · right; show zs.getD a.2.2.toNat 0 = zs.getD b.2.2.toNat 0; rw [h1]
theorem ren_step {r s : Int} {es : List Ed} {zs : List Int} (h : okN r s es zs = true) {i j : Nat} {l : Int} (hi : i < zs.length) (hj : j < zs.length) : StepAt (rnE r s es zs) (i : Int) l (j : Int) ↔ StepAt es (zs.getD i 0) l (zs.getD j 0) := by
 obtain ⟨hg, hz, hco⟩ := okN_iff.1 h
 rw [stepAt_mem, stepAt_mem]
 constructor
 · rintro ⟨e, he, h1⟩
   obtain ⟨a, b, c⟩ := (ren_mem h).1 he
   refine ⟨_, c, ?_⟩
   rcases h1 with ⟨x, y, z⟩ | ⟨x, y, z⟩
   · exact .inl ⟨by rw [← x]; simp, y, by rw [← z]; simp⟩
   · exact .inr ⟨by rw [← x]; simp, y, by rw [← z]; simp⟩
 · rintro ⟨e, he, h1⟩
   rcases h1 with ⟨x, y, z⟩ | ⟨x, y, z⟩
   · refine ⟨((i : Int), l, (j : Int)), (ren_mem h).2 ⟨by simp; omega, by simp; omega, ?_⟩, .inl ⟨rfl, rfl, rfl⟩⟩
     simp only [Int.toNat_natCast]
     have : (zs.getD i 0, l, zs.getD j 0) = e := Prod.ext x (Prod.ext y z)
     rw [this]; exact he
   · refine ⟨((j : Int), -l, (i : Int)), (ren_mem h).2 ⟨by simp; omega, by simp; omega, ?_⟩, .inr ⟨rfl, by simp, rfl⟩⟩
     simp only [Int.toNat_natCast]
     have : (zs.getD j 0, -l, zs.getD i 0) = e := Prod.ext z (Prod.ext (by show -l = e.2.1; omega) x)
     rw [this]; exact he
theorem ren_nx {r s : Int} {es : List Ed} {zs : List Int} (hf : isFo r s es = true) (h : okN r s es zs = true) {i : Nat} {l : Int} (hl : -3 ≤ l ∧ l ≤ 3) (hi : i < zs.length)
 (hcl : 0 ≤ nxV es (zs.getD i 0) l → nxV es (zs.getD i 0) l ∈ zs) :
 (∃ k, k < zs.length ∧ nxV es (zs.getD i 0) l = zs.getD k 0 ∧ 0 ≤ zs.getD k 0 ∧ nxV (rnE r s es zs) (i : Int) l = (k : Int)) ∨ (nxV es (zs.getD i 0) l < 0 ∧ nxV (rnE r s es zs) (i : Int) l < 0) := by
 obtain ⟨hg, hz, hco⟩ := okN_iff.1 h
 have hf2 := ren_fo hf h
 obtain ⟨g1, g2⟩ := fo_gr hf
 obtain ⟨g3, g4⟩ := fo_gr hf2
 rcases nx_cases g1 g2 (v := zs.getD i 0) (l := l) (by omega) with ⟨h1, h2, h3⟩ | ⟨h1, h2⟩
 · obtain ⟨k, hk, e⟩ := mem_getI.1 (hcl h2)
   left
   rw [← e] at h1
   exact ⟨k, hk, e.symm, by omega, nx_at g3 g4 ((ren_step h hi hk).2 h1)⟩
 · right
   refine ⟨by omega, ?_⟩
   rw [nx_no g3 (by omega) (fun y hy => ?_)]
   · omega
   · have hv := stepAt_vert g3 hy
     have : y = ((y.toNat : Nat) : Int) := by omega
     rw [this] at hy
     exact h2 _ ((ren_step h hi (by omega)).1 hy)
theorem coS_pre8 (es : List Ed) (u : Int) (out : List Int) (l : Int) : ∃ t, coS es u out l = out ++ t := by
 unfold coS; split
 · exact ⟨_, rfl⟩
 · exact ⟨[], (List.append_nil _).symm⟩
theorem fold_pre (es : List Ed) (u : Int) : ∀ (ls out : List Int), ∃ t, ls.foldl (coS es u) out = out ++ t := by
 intro ls
 induction ls with
 | nil => intro out; exact ⟨[], (List.append_nil _).symm⟩
 | cons l r ih =>
  intro out
  obtain ⟨t1, h1⟩ := coS_pre8 es u out l
  obtain ⟨t2, h2⟩ := ih (coS es u out l)
  exact ⟨t1 ++ t2, by rw [List.foldl_cons, h2, h1, List.append_assoc]⟩
theorem coR_full (es : List Ed) (u : Int) (ls out : List Int) : coR es u ls out ls.length = ls.foldl (coS es u) out := by unfold coR; rw [List.take_length]
theorem coN_pre1 (es : List Ed) (ls : List Int) (i : Nat) : ∃ t, coN es ls (i + 1) = coN es ls i ++ t := by
 show ∃ t, (if i < (coN es ls i).length then coR es ((coN es ls i).getD i 0) ls (coN es ls i) ls.length else coN es ls i) = coN es ls i ++ t
 split
 · rw [coR_full]; exact fold_pre es _ ls _
 · exact ⟨[], (List.append_nil _).symm⟩
theorem coN_pre (es : List Ed) (ls : List Int) (i : Nat) : ∀ j, ∃ t, coN es ls (i + j) = coN es ls i ++ t := by
 intro j
 induction j with
 | zero => exact ⟨[], (List.append_nil _).symm⟩
 | succ j ih =>
  obtain ⟨t, ht⟩ := ih
  obtain ⟨t2, h2⟩ := coN_pre1 es ls (i + j)
  exact ⟨t ++ t2, by rw [show i + (j + 1) = i + j + 1 by omega, h2, ht, List.append_assoc]⟩
theorem coN_40 (es : List Ed) (ls : List Int) {i : Nat} (h : i ≤ 40) : ∃ t, coN es ls 40 = coN es ls i ++ t := by
 have := coN_pre es ls i (40 - i)
 rw [show i + (40 - i) = 40 by omega] at this
 exact this
theorem fold_has {es : List Ed} {u : Int} : ∀ {ls out : List Int} {l : Int}, l ∈ ls → 0 ≤ nxV es u l → nxV es u l ∈ ls.foldl (coS es u) out := by
 intro ls
 induction ls with
 | nil => intro out l h; cases h
 | cons x r ih =>
  intro out l h h0
  rw [List.foldl_cons]
  rcases List.mem_cons.1 h with rfl | h
  · obtain ⟨t, ht⟩ := fold_pre es u r (coS es u out l)
    rw [ht, List.mem_append]
    left
    unfold coS
    by_cases hm : nxV es u l ∈ out
    · rw [if_neg (fun c => c.2 hm)]; exact hm
    · rw [if_pos ⟨h0, hm⟩]; exact List.mem_append_right _ (List.mem_singleton.2 rfl)
  · exact ih h h0
theorem getD_pre {a t : List Int} {i : Nat} (h : i < a.length) : (a ++ t).getD i 0 = a.getD i 0 := by
 rw [List.getD_eq_getElem?_getD, List.getElem?_append_left h, List.getD_eq_getElem?_getD]
theorem coN_closed {s : Nat} {es : List Ed} {ls : List Int} (hl : (coN es ls 40).length ≤ 40) {i : Nat} (hi : i < (coN es ls 40).length) {l : Int} (hm : l ∈ ls) (h0 : 0 ≤ nxV es ((coN es ls 40).getD i 0) l) : nxV es ((coN es ls 40).getD i 0) l ∈ coN es ls 40 := by
 have hi2 : i < (coN es ls i).length := by
  rcases Nat.lt_or_ge i (coN es ls i).length with c | c
  · exact c
  · exfalso
    have := coN_stop (es := es) (ls := ls) (i := i) c (40 - i)
    rw [show i + (40 - i) = 40 by omega] at this
    rw [this] at hi
    omega
 obtain ⟨t, ht⟩ := coN_40 es ls (i := i) (by omega)
 obtain ⟨t2, ht2⟩ := coN_40 es ls (i := i + 1) (by omega)
 have hg : (coN es ls 40).getD i 0 = (coN es ls i).getD i 0 := by rw [ht, getD_pre hi2]
 rw [hg] at h0 ⊢
 rw [ht2, List.mem_append]
 left
 rw [coN, if_pos hi2, coR_full]
 exact fold_has hm h0
theorem coN_zero (es : List Ed) (ls : List Int) : (coN es ls 40).getD 0 0 = 0 ∧ 0 < (coN es ls 40).length := by
 obtain ⟨t, ht⟩ := coN_40 es ls (i := 0) (by omega)
 rw [ht]
 constructor
 · rfl
 · rw [List.length_append]; show 0 < 1 + _; omega
theorem fo_order {r s : Int} {es : List Ed} (hf : isFo r s es = true) : CoIn s.toNat (coN es (letsN r.toNat) 40) ∧ okN r s es (coN es (letsN r.toNat) 40) = true ∧ (coN es (letsN r.toNat) 40).length ≤ 40 := by
 have hg := (fo_gr hf).1
 have hl := isGr_lim hg
 have hco := CoIn.all (endsIn_of hg) (by omega) (letsN r.toNat) 40
 have hz := (coN_zero es (letsN r.toNat)).2
 exact ⟨hco, okN_iff.2 ⟨hg, by omega, hco⟩, by have := hco.len; omega⟩
theorem take_at8 {zs : List Int} {k : Nat} {y : Int} {t : List Int} (h : zs = (zs.take k ++ [y]) ++ t) (hk : k ≤ zs.length) : k < zs.length ∧ zs.getD k 0 = y ∧ zs.take k ++ [y] = zs.take (k + 1) := by
 have hlen := congrArg List.length h
 rw [List.length_append, List.length_append, List.length_take, List.length_singleton] at hlen
 have hk2 : k < zs.length := by omega
 have hy : zs.getD k 0 = y := by
  have : zs.getD k 0 = ((zs.take k ++ [y]) ++ t).getD k 0 := by rw [← h]
  rw [this, getD_pre (by simp; omega), List.getD_eq_getElem?_getD, List.getElem?_append_right (by simp; omega)]
  simp [Nat.min_eq_left hk]
 refine ⟨hk2, hy, ?_⟩
 rw [List.take_add_one, List.getElem?_eq_getElem hk2, ← hy, getD_of hk2]; rfl
theorem fold_same {r s : Int} {es : List Ed} {zs : List Int} (hf : isFo r s es = true) (h : okN r s es zs = true) {i : Nat} (hi : i < zs.length) (LS : List Int)
 (hcl : ∀ l ∈ LS, 0 ≤ nxV es (zs.getD i 0) l → nxV es (zs.getD i 0) l ∈ zs) (hb : ∀ l ∈ LS, -3 ≤ l ∧ l ≤ 3) :
 ∀ (ls : List Int) (k : Nat) (t : List Int), (∀ l ∈ ls, l ∈ LS) → k ≤ zs.length → zs = ls.foldl (coS es (zs.getD i 0)) (zs.take k) ++ t →
  ∃ k', k' ≤ zs.length ∧ ls.foldl (coS es (zs.getD i 0)) (zs.take k) = zs.take k' ∧ ls.foldl (coS (rnE r s es zs) (i : Int)) (upN k) = upN k' := by
 obtain ⟨hg, hz, hco⟩ := okN_iff.1 h
 intro ls
 induction ls with
 | nil => intro k t _ hk _; exact ⟨k, hk, rfl, rfl⟩
 | cons l ls ih =>
  intro k t hin hk hpre
  have hlm := hin l List.mem_cons_self
  rw [List.foldl_cons] at hpre ⊢
  rw [List.foldl_cons]
  rcases ren_nx hf h (hb l hlm) hi (hcl l hlm) with ⟨kk, hkk, e1, e2, e3⟩ | ⟨e1, e2⟩
  · by_cases hm : kk < k
    · have hmem : zs.getD kk 0 ∈ zs.take k := by
       refine mem_getI.2 ⟨kk, by simp; omega, ?_⟩
       rw [List.getD_eq_getElem?_getD, List.getElem?_take, if_pos hm, List.getD_eq_getElem?_getD]
      have s1 : coS es (zs.getD i 0) (zs.take k) l = zs.take k := by unfold coS; rw [e1, if_neg (fun c => c.2 hmem)]
      have s2 : coS (rnE r s es zs) (i : Int) (upN k) l = upN k := by unfold coS; rw [e3, if_neg (fun c => c.2 (mem_up.2 (by omega)))]
      rw [s1] at hpre ⊢
      rw [s2]
      exact ih k t (fun x hx => hin x (List.mem_cons_of_mem _ hx)) hk hpre
    · have hmem : zs.getD kk 0 ∉ zs.take k := fun hc => by
       obtain ⟨q, hq, eq⟩ := mem_getI.1 hc
       rw [List.length_take] at hq
       have : (zs.take k).getD q 0 = zs.getD q 0 := by rw [List.getD_eq_getElem?_getD, List.getElem?_take, if_pos (by omega), List.getD_eq_getElem?_getD]
       rw [this] at eq
       have := nd_inj hco.1 (by omega) hkk eq
       omega
      have s1 : coS es (zs.getD i 0) (zs.take k) l = zs.take k ++ [zs.getD kk 0] := by unfold coS; rw [e1, if_pos ⟨e2, hmem⟩]
      rw [s1] at hpre ⊢
      obtain ⟨t2, ht2⟩ := fold_pre es (zs.getD i 0) ls (zs.take k ++ [zs.getD kk 0])
      have hp2 : zs = (zs.take k ++ [zs.getD kk 0]) ++ (t2 ++ t) := by rw [ht2] at hpre; rw [← List.append_assoc]; exact hpre
      obtain ⟨q1, q2, q3⟩ := take_at8 hp2 hk
      have hke : kk = k := nd_inj hco.1 hkk q1 q2.symm
      subst hke
      have s2 : coS (rnE r s es zs) (i : Int) (upN kk) l = upN (kk + 1) := by
       unfold coS
       rw [e3, if_pos ⟨by omega, fun c => by have := mem_up.1 c; omega⟩]
       simp [upN, List.range_succ]
      rw [q3] at hpre ⊢
      rw [s2]
      exact ih (kk + 1) t (fun x hx => hin x (List.mem_cons_of_mem _ hx)) (by omega) hpre
  · have s1 : coS es (zs.getD i 0) (zs.take k) l = zs.take k := by unfold coS; rw [if_neg (fun c => by omega)]
    have s2 : coS (rnE r s es zs) (i : Int) (upN k) l = upN k := by unfold coS; rw [if_neg (fun c => by omega)]
    rw [s1] at hpre ⊢
    rw [s2]
    exact ih k t (fun x hx => hin x (List.mem_cons_of_mem _ hx)) hk hpre
theorem co_same {r s : Int} {es : List Ed} (hf : isFo r s es = true) {zs : List Int} (hz : zs = coN es (letsN r.toNat) 40) : ∀ i, i ≤ 40 → ∃ k, k ≤ zs.length ∧ coN es (letsN r.toNat) i = zs.take k ∧ coN (rnE r s es zs) (letsN r.toNat) i = upN k := by
 obtain ⟨hco, hok, hl40⟩ := fo_order hf
 have hlim := isGr_lim (fo_gr hf).1
 have h0 := coN_zero es (letsN r.toNat)
 rw [← hz] at hco hok hl40 h0
 intro i
 induction i with
 | zero =>
  intro _
  refine ⟨1, by omega, ?_, rfl⟩
  rw [List.take_add_one, List.getElem?_eq_getElem h0.2, ← getD_of h0.2, h0.1]; rfl
 | succ i ih =>
  intro hi
  obtain ⟨k, hk, e1, e2⟩ := ih (by omega)
  obtain ⟨t, ht⟩ := coN_40 es (letsN r.toNat) hi
  rw [← hz] at ht
  unfold coN at ht ⊢
  rw [e1] at ht ⊢
  rw [e2]
  have hlen1 : (zs.take k).length = k := by simp; omega
  rw [hlen1] at ht ⊢
  rw [up_len]
  by_cases hik : i < k
  · rw [if_pos hik] at ht ⊢
    rw [if_pos hik]
    have hzi : (zs.take k).getD i 0 = zs.getD i 0 := by rw [List.getD_eq_getElem?_getD, List.getElem?_take, if_pos hik, List.getD_eq_getElem?_getD]
    rw [hzi, coR_full] at ht ⊢
    rw [up_at hik, coR_full]
    refine fold_same hf hok (by omega) (letsN r.toNat) (fun l hl h => ?_) (fun l hl => by have := letsN_in r.toNat l hl; omega) (letsN r.toNat) k t (fun _ h => h) hk ht
    have := coN_closed (s := s.toNat) (es := es) (ls := letsN r.toNat) (by rw [← hz]; exact hl40) (i := i) (by rw [← hz]; omega) hl (by rw [← hz]; exact h)
    rw [← hz] at this
    exact this
  · rw [if_neg hik, if_neg hik]
    exact ⟨k, hk, rfl, rfl⟩
theorem order_up {r s : Int} {es : List Ed} (hf : isFo r s es = true) : cgL r (cgS r s es) (cgE r s es) = upN (cgL r s es).length ∧ cgS r s es = ((cgL r s es).length : Int) ∧ cgE r s es = rnE r s es (cgL r s es) ∧ okN r s es (cgL r s es) = true := by
 obtain ⟨hco, hok, hl40⟩ := fo_order hf
 obtain ⟨zs, hz⟩ := exq (coN es (letsN r.toNat) 40)
 have hL : cgL r s es = zs := by unfold cgL coL; rw [if_pos hf, hz]
 have h0 := (coN_zero es (letsN r.toNat)).2
 rw [← hz] at hok hl40 h0
 have hS : cgS r s es = (zs.length : Int) := by
  unfold cgS; rw [hL, if_neg (by omega), rnS, if_pos hok]
 have hE : cgE r s es = rnE r s es zs := by unfold cgE; rw [hL, if_neg (by omega)]
 rw [hL, hS, hE]
 refine ⟨?_, rfl, rfl, hok⟩
 obtain ⟨k, hk, e1, e2⟩ := co_same hf hz 40 (Nat.le_refl _)
 rw [← hz] at e1
 have hkl : k = zs.length := by have := congrArg List.length e1; rw [List.length_take] at this; omega
 subst hkl
 have hf2 := ren_fo hf hok
 unfold cgL coL
 rw [if_pos hf2]
 exact e2
theorem ren_up {r s : Int} {es : List Ed} (hg : isGr r s es = true) : rnE r s es (upN s.toNat) = es ∧ okN r s es (upN s.toNat) = true := ⟨(mo_start hg).ed.symm, (mo_start hg).sub.ok hg⟩
theorem canon_of_up {r s : Int} {es : List Ed} (hg : isGr r s es = true) (h : cgL r s es = upN s.toNat) : cgS r s es = s ∧ cgE r s es = es := by
 have hl := isGr_lim hg
 obtain ⟨h1, h2⟩ := ren_up hg
 unfold cgS cgE
 rw [h, up_len, if_neg (by omega), if_neg (by omega), h1, rnS, if_pos h2, up_len]
 exact ⟨by omega, rfl⟩
theorem canon_no {r s : Int} {es : List Ed} (hf : isFo r s es = false) : cgS r s es = s ∧ cgE r s es = es := by
 have : cgL r s es = [] := by unfold cgL coL; rw [hf]; rfl
 unfold cgS cgE
 rw [this]
 exact ⟨rfl, rfl⟩
theorem canon_fo {r s : Int} {es : List Ed} (hf : isFo r s es = true) : isFo r (cgS r s es) (cgE r s es) = true := by
 obtain ⟨_, h2, h3, h4⟩ := order_up hf
 rw [h2, h3]
 exact ren_fo hf h4
theorem canon_twice (r s : Int) (es : List Ed) : cgS r (cgS r s es) (cgE r s es) = cgS r s es ∧ cgE r (cgS r s es) (cgE r s es) = cgE r s es := by
 cases hf : isFo r s es with
 | false =>
  obtain ⟨h1, h2⟩ := canon_no hf
  rw [h1, h2]
  exact ⟨h1, h2⟩
 | true =>
  have hf2 := canon_fo hf
  obtain ⟨h1, h2, _⟩ := order_up hf
  refine canon_of_up (fo_gr hf2).1 ?_
  rw [h1, h2, Int.toNat_natCast]
theorem tm_leaf {r s : Int} {es : List Ed} (hg : isGr r s es = true) : ∀ v, 1 ≤ v → v < tmS r s es → 2 ≤ degE v (tmE r s es) ∧ Con (tmE r s es) 0 v := by
 intro v h1 h2
 have h := mo_all hg 40
 have he := mo_end hg
 have hg2 := tm_gr hg
 unfold tmS tmE at *
 rw [if_pos hg] at *
 rw [if_pos hg] at hg2
 have hno := lfN_no _ _ (by omega) he v h1 (by omega)
 have hn2 : ¬ leafB r (trN r s es 40).s (trN r s es 40).es v = true := by rw [hno]; simp
 rw [leafB_iff hg2] at hn2
 constructor
 · omega
 · exact Classical.byContradiction fun hc => hn2 (.inr hc)
theorem tm_fo {r s : Int} {es : List Ed} (hf : isFo r s es = true) : isFo r (tmS r s es) (tmE r s es) = true := by
 have hg := (fo_gr hf).1
 unfold tmS tmE
 rw [if_pos hg, if_pos hg]
 have h := mo_all hg 40
 rw [h.sz, h.ed]
 exact ren_fo hf (h.sub.ok hg)
theorem lf_no {r s : Int} {es : List Ed} (hg : isGr r s es = true) (h : ∀ v, 1 ≤ v → v < s → 2 ≤ degE v es ∧ Con es 0 v) : lf r s es < 0 := by
 rcases lf_or r s es with c | c
 · omega
 · exfalso
   have := lfN_yes (r := r) (s := s) (es := es) (s - 1).toNat 1 (by unfold lf at c; omega)
   change leafB r s es (lf r s es) = true at this
   rw [leafB_iff hg] at this
   have h2 := h _ c.1 c.2
   rcases this with d | d
   · omega
   · exact d h2.2
theorem lets_mem {k : Nat} {l : Int} (h1 : 1 ≤ l ∨ l ≤ -1) (h2 : -(k : Int) ≤ l ∧ l ≤ k) : l ∈ letsN k := by
 induction k with
 | zero => omega
 | succ k ih =>
  rw [letsN, List.mem_append]
  by_cases c : -(k : Int) ≤ l ∧ l ≤ k
  · exact .inl (ih c)
  · right
    rw [List.mem_cons, List.mem_singleton]
    omega
theorem order_con {r s : Int} {es : List Ed} (hf : isFo r s es = true) {v : Int} (h : Con es 0 v) : v ∈ cgL r s es := by
 have hg := (fo_gr hf).1
 have hlim := isGr_lim hg
 obtain ⟨hco, hok, hl40⟩ := fo_order hf
 have h0 := coN_zero es (letsN r.toNat)
 have hL : cgL r s es = coN es (letsN r.toNat) 40 := by unfold cgL coL; rw [if_pos hf]
 rw [hL]
 have hcl := fun i (hi : i < (coN es (letsN r.toNat) 40).length) l (hl : l ∈ letsN r.toNat) => coN_closed (s := s.toNat) (es := es) (ls := letsN r.toNat) hl40 hi hl
 refine h (fun y => y ∈ coN es (letsN r.toNat) 40) (mem_getI.2 ⟨0, h0.2, h0.1⟩) fun e he => ?_
 have hm := gr_mem8 hg he
 constructor
 · intro hy
   obtain ⟨i, hi, ei⟩ := mem_getI.1 hy
   have hst : StepAt es e.1 e.2.1 e.2.2 := stepAt_mem.2 ⟨e, he, .inl ⟨rfl, rfl, rfl⟩⟩
   have hnx := nx_at hg (fo_gr hf).2 hst
   have := hcl i hi e.2.1 (lets_mem (by omega) (by omega))
   rw [ei, hnx] at this
   exact this hm.2.1.1
 · intro hy
   obtain ⟨i, hi, ei⟩ := mem_getI.1 hy
   have hst : StepAt es e.2.2 (-e.2.1) e.1 := stepAt_mem.2 ⟨e, he, .inr ⟨rfl, rfl, rfl⟩⟩
   have hnx := nx_at hg (fo_gr hf).2 hst
   have := hcl i hi (-e.2.1) (lets_mem (by omega) (by omega))
   rw [ei, hnx] at this
   exact this hm.1.1
theorem canon_leaf {r s : Int} {es : List Ed} (hf : isFo r s es = true) (h : ∀ v, 1 ≤ v → v < s → 2 ≤ degE v es ∧ Con es 0 v) : lf r (cgS r s es) (cgE r s es) < 0 := by
 have hg := (fo_gr hf).1
 obtain ⟨_, h2, h3, h4⟩ := order_up hf
 obtain ⟨_, _, hco⟩ := okN_iff.1 h4
 have h0 := coN_zero es (letsN r.toNat)
 have hL : cgL r s es = coN es (letsN r.toNat) 40 := by unfold cgL coL; rw [if_pos hf]
 rw [← hL] at h0
 have hall : ∀ y, 0 ≤ y → y < s → y ∈ cgL r s es := fun y h5 h6 => by
  by_cases c : y = 0
  · rw [c]; exact mem_getI.2 ⟨0, h0.2, h0.1⟩
  · exact order_con hf (h y (by omega) h6).2
 have hfil : fil (cgL r s es) es = es := by
  unfold fil
  rw [List.filter_eq_self]
  intro e he
  have hm := gr_mem8 hg he
  exact decide_eq_true ⟨hall _ hm.1.1 hm.1.2, hall _ hm.2.1.1 hm.2.1.2⟩
 refine lf_no (fo_gr (canon_fo hf)).1 fun v h5 h6 => ?_
 rw [h2] at h6
 rw [h3]
 obtain ⟨i, rfl⟩ : ∃ i : Nat, v = (i : Int) := ⟨v.toNat, by omega⟩
 have hi : i < (cgL r s es).length := by omega
 rw [deg_ren h4 hi, con_ren h4 hi, hfil, h0.1]
 have hr := hco.2 _ (mem_getI.2 ⟨i, hi, rfl⟩)
 refine h _ ?_ (by omega)
 have hne : (cgL r s es).getD i 0 ≠ 0 := fun c => by
  have := nd_inj hco.1 hi h0.2 (by rw [c, h0.1])
  omega
 omega
end Go.Proofs.YtpjlamnjiilgbaaGreat
namespace Go.Proofs.YtpjlamnjiilgbaaGreat
open Go.RowKit
set_option linter.unusedVariables false
set_option linter.unusedSimpArgs false
theorem row_has {es : List Ed} {i : Nat} {f : tupF} : ∀ d j, j < d → f ∈ pairF (es.getD i e0) (es.getD (i + 1 + j) e0) → f ∈ rowF es i d := by
 intro d
 induction d with
 | zero => intro j h; omega
 | succ d ih =>
  intro j hj hf
  rw [rowF, List.mem_append]
  by_cases c : j = d
  · subst c; exact .inr hf
  · exact .inl (ih j (by omega) hf)
theorem all_has {es : List Ed} {i j : Nat} {f : tupF} (hij : i < j) (hj : j < es.length) (hf : f ∈ pairF (es.getD i e0) (es.getD j e0)) : ∀ n, i < n → f ∈ allF es n := by
 intro n
 induction n with
 | zero => intro h; omega
 | succ n ih =>
  intro h
  rw [allF, List.mem_append]
  by_cases c : i = n
  · subst c
    exact .inr (row_has _ (j - (i + 1)) (by omega) (by rw [show i + 1 + (j - (i + 1)) = j by omega]; exact hf))
  · exact .inl (ih (by omega))
theorem folds_fo {es : List Ed} : (foldsF es).length = 0 ↔ foldB es es.length = true := by
 rw [List.length_eq_zero_iff]
 constructor
 · intro h
   rw [foldB_iff]
   intro i hi k hk hm
   have key : ∀ f, f ∈ pairF (es.getD k e0) (es.getD i e0) → False := fun f hf => by
    have : f ∈ foldsF es := all_has hk hi hf es.length (by omega)
    rw [h] at this; cases this
   unfold Meets at hm
   unfold pairF at key
   rcases hm.2 with h1 | h1
   · exact key _ (List.mem_append_left _ (by rw [if_pos ⟨hm.1.symm, h1.symm⟩]; exact List.mem_singleton.2 rfl))
   · exact key _ (List.mem_append_right _ (by rw [if_pos ⟨hm.1.symm, h1.symm⟩]; exact List.mem_singleton.2 rfl))
 · intro h
   rw [List.eq_nil_iff_forall_not_mem]
   intro f hf
   obtain ⟨i, j, hij, hj, hp⟩ := all_mem es.length (Nat.le_refl _) hf
   have hn := foldB_iff.1 h j hj i hij
   unfold pairF at hp
   unfold Meets at hn
   rcases List.mem_append.1 hp with h1 | h1
   · split at h1
     · rename_i c; exact hn ⟨c.1.symm, .inl c.2.symm⟩
     · cases h1
   · split at h1
     · rename_i c; exact hn ⟨c.1.symm, .inr c.2.symm⟩
     · cases h1
theorem or_last {r s : Int} {es : List Ed} {cs : List Int} (hg : isGr r s es = true) : (foldsF (orN r s es cs 40).es).length = 0 := by
 by_cases h : ∃ j, j < 40 ∧ (foldsF (orN r s es cs j).es).length = 0
 · obtain ⟨j, hj, h0⟩ := h
   have := orN_stop r s es cs h0 (40 - j)
   rw [show j + (40 - j) = 40 by omega] at this
   rw [this]; exact h0
 · exfalso
   have := or_end (i := 40) (cs := cs) hg (fun j hj h0 => h ⟨j, hj, h0⟩)
   omega
theorem fo_fo {r s : Int} {es : List Ed} (cs : List Int) (hg : isGr r s es = true) : isFo r (foS r s es cs) (foE r s es cs) = true := by
 unfold foS foE
 rw [if_pos hg, if_pos hg]
 unfold isFo
 rw [or_gr hg 40, folds_fo.1 (or_last hg)]; rfl
theorem fa_folded {r s : Int} {es : List Ed} (hg : isGr r s es = true) : isFo r (faS r s es) (faE r s es) = true := by
 obtain ⟨h1, h2, _⟩ := fa_fo r s es
 rw [h1, h2]; exact fo_fo [] hg
end Go.Proofs.YtpjlamnjiilgbaaGreat
