import Derived.Test.YtfpklgmahbhecaaGreatTP
import Derived.Test.YtfpklgmahbhecaaGreatQG
namespace Go.Proofs.YtfpklgmahbhecaaGreat
open Go.RowKit
set_option linter.unusedVariables false
set_option linter.unusedSimpArgs false
structure Iso (sA : Int) (EA : List Ed) (sB : Int) (EB : List Ed) (f : Int → Int) : Prop where
 zero : f 0 = 0
 rng : ∀ v, 0 ≤ v → v < sA → 0 ≤ f v ∧ f v < sB
 inj : ∀ u v, 0 ≤ u → u < sA → 0 ≤ v → v < sA → f u = f v → u = v
 sur : ∀ y, 0 ≤ y → y < sB → ∃ v, 0 ≤ v ∧ v < sA ∧ f v = y
 ed : ∀ u l v, 0 ≤ u → u < sA → 0 ≤ v → v < sA → ((u, l, v) ∈ EA ↔ (f u, l, f v) ∈ EB)
theorem Iso.symm {sA sB : Int} {EA EB : List Ed} {f : Int → Int} (h : Iso sA EA sB EB f) (hA : 0 < sA) : ∃ g, Iso sB EB sA EA g ∧ (∀ v, 0 ≤ v → v < sA → g (f v) = v) ∧ ∀ y, 0 ≤ y → y < sB → f (g y) = y := by
 have hex : ∀ y : Int, ∃ v : Int, 0 ≤ y ∧ y < sB → 0 ≤ v ∧ v < sA ∧ f v = y := fun y => by
  by_cases c : 0 ≤ y ∧ y < sB
  · obtain ⟨v, h1, h2, h3⟩ := h.sur y c.1 c.2
    exact ⟨v, fun _ => ⟨h1, h2, h3⟩⟩
  · exact ⟨0, fun c' => absurd c' c⟩
 obtain ⟨g, hg⟩ := Classical.axiomOfChoice hex
 have hgf : ∀ v, 0 ≤ v → v < sA → g (f v) = v := fun v h0 h1 => by
  obtain ⟨a, b, c⟩ := hg (f v) (h.rng v h0 h1)
  exact h.inj _ _ a b h0 h1 c
 have hfg : ∀ y, 0 ≤ y → y < sB → f (g y) = y := fun y h0 h1 => (hg y ⟨h0, h1⟩).2.2
 refine ⟨g, ⟨?_, fun y h0 h1 => ?_, fun u v a b c d e => ?_, fun v h0 h1 => ?_, fun u l v a b c d => ?_⟩, hgf, hfg⟩
 · have := hgf 0 (by omega) hA
   rw [h.zero] at this; exact this
 · obtain ⟨a, b, _⟩ := hg y ⟨h0, h1⟩; exact ⟨a, b⟩
 · rw [← hfg u a b, ← hfg v c d, e]
 · exact ⟨f v, (h.rng v h0 h1).1, (h.rng v h0 h1).2, hgf v h0 h1⟩
 · obtain ⟨a1, a2, a3⟩ := hg u ⟨a, b⟩
   obtain ⟨c1, c2, c3⟩ := hg v ⟨c, d⟩
   rw [h.ed _ l _ a1 a2 c1 c2, a3, c3]
theorem Iso.le {sA sB : Int} {EA EB : List Ed} {f : Int → Int} (h : Iso sA EA sB EB f) (hA : 0 < sA) (hB : 0 < sB) : sA ≤ sB := by
 have hc : CoIn sB.toNat ((upN sA.toNat).map f) := by
  refine ⟨?_, fun y hy => ?_⟩
  · unfold List.Nodup
    rw [List.pairwise_map]
    refine List.Pairwise.imp_of_mem ?_ (asc_up sA.toNat)
    intro a b ha hb hab e
    have ha2 := mem_up.1 ha
    have hb2 := mem_up.1 hb
    have := h.inj a b ha2.1 (by omega) hb2.1 (by omega) e
    omega
  · obtain ⟨v, hv, rfl⟩ := List.mem_map.1 hy
    have hv2 := mem_up.1 hv
    have := h.rng v hv2.1 (by omega)
    omega
 have := hc.len
 rw [List.length_map, up_len] at this
 omega
theorem step_iff {es : List Ed} {v l y : Int} : StepAt es v l y ↔ (v, l, y) ∈ es ∨ (y, -l, v) ∈ es := by
 rw [stepAt_mem]
 constructor
 · rintro ⟨⟨a, b, c⟩, he, ⟨h1, h2, h3⟩ | ⟨h1, h2, h3⟩⟩
   · simp only at h1 h2 h3; subst h1 h2 h3; exact .inl he
   · simp only at h1 h2 h3; subst h1 h2 h3; right; simpa using he
 · rintro (he | he)
   · exact ⟨_, he, .inl ⟨rfl, rfl, rfl⟩⟩
   · exact ⟨_, he, .inr ⟨rfl, by simp, rfl⟩⟩
theorem iso_step {sA sB : Int} {EA EB : List Ed} {f : Int → Int} (h : Iso sA EA sB EB f) {v l y : Int} (hv : 0 ≤ v ∧ v < sA) (hy : 0 ≤ y ∧ y < sA) : StepAt EA v l y ↔ StepAt EB (f v) l (f y) := by
 rw [step_iff, step_iff, h.ed v l y hv.1 hv.2 hy.1 hy.2, h.ed y (-l) v hy.1 hy.2 hv.1 hv.2]
section
variable {r sA sB : Int} {EA EB : List Ed} {f : Int → Int}
theorem iso_nx (h : Iso sA EA sB EB f) (hA : isFo r sA EA = true) (hB : isFo r sB EB = true) {v l : Int} (hv : 0 ≤ v ∧ v < sA) (hl : -3 ≤ l ∧ l ≤ 3) :
 (0 ≤ nxV EA v l ∧ nxV EA v l < sA ∧ nxV EB (f v) l = f (nxV EA v l)) ∨ (nxV EA v l = -1 ∧ nxV EB (f v) l = -1) := by
 obtain ⟨ga, fa⟩ := fo_gr hA
 obtain ⟨gb, fb⟩ := fo_gr hB
 by_cases c : ∃ y, StepAt EA v l y
 · obtain ⟨y, hy⟩ := c
   have hyr := (stepAt_vert ga hy).2.1
   rw [nx_at ga fa hy, nx_at gb fb ((iso_step h hv hyr).1 hy)]
   exact .inl ⟨hyr.1, hyr.2, rfl⟩
 · right
   refine ⟨nx_no ga (by omega) (fun y hy => c ⟨y, hy⟩), nx_no gb (by omega) (fun z hz => ?_)⟩
   have hzr := (stepAt_vert gb hz).2.1
   obtain ⟨y, h1, h2, rfl⟩ := h.sur z hzr.1 hzr.2
   exact c ⟨y, (iso_step h hv ⟨h1, h2⟩).2 hz⟩
theorem iso_coS (h : Iso sA EA sB EB f) (hA : isFo r sA EA = true) (hB : isFo r sB EB = true) {u l : Int} {out : List Int} (hu : 0 ≤ u ∧ u < sA) (hl : -3 ≤ l ∧ l ≤ 3) (ho : ∀ y ∈ out, 0 ≤ y ∧ y < sA) :
 coS EB (f u) (out.map f) l = (coS EA u out l).map f := by
 have hm : ∀ y, 0 ≤ y → y < sA → (f y ∈ out.map f ↔ y ∈ out) := fun y h0 h1 => by
  constructor
  · intro hy
    obtain ⟨z, hz, e⟩ := List.mem_map.1 hy
    have := h.inj z y (ho z hz).1 (ho z hz).2 h0 h1 e
    rw [← this]; exact hz
  · exact fun hy => List.mem_map.2 ⟨y, hy, rfl⟩
 unfold coS
 rcases iso_nx h hA hB hu hl with ⟨h1, h2, h3⟩ | ⟨h1, h2⟩
 · rw [h3]
   by_cases c : nxV EA u l ∈ out
   · rw [if_neg (fun q => q.2 ((hm _ h1 h2).2 c)), if_neg (fun q => q.2 c)]
   · rw [if_pos ⟨(h.rng _ h1 h2).1, fun q => c ((hm _ h1 h2).1 q)⟩, if_pos ⟨h1, c⟩, List.map_append]
     rfl
 · rw [h1, h2, if_neg (by omega), if_neg (by omega)]
theorem coS_rng {u l : Int} {out : List Int} (hA : isFo r sA EA = true) (ho : ∀ y ∈ out, 0 ≤ y ∧ y < sA) : ∀ y ∈ coS EA u out l, 0 ≤ y ∧ y < sA := by
 have hE := endsIn_of (fo_gr hA).1
 have hl := isGr_lim (fo_gr hA).1
 unfold coS
 split
 · rename_i c
   intro y hy
   rcases List.mem_append.1 hy with q | q
   · exact ho y q
   · rw [List.mem_singleton] at q
     subst q
     have := nxV_in hE c.1
     omega
 · exact ho
theorem iso_coR (h : Iso sA EA sB EB f) (hA : isFo r sA EA = true) (hB : isFo r sB EB = true) {u : Int} (hu : 0 ≤ u ∧ u < sA) : ∀ (ls out : List Int), (∀ l ∈ ls, -3 ≤ l ∧ l ≤ 3) → (∀ y ∈ out, 0 ≤ y ∧ y < sA) →
 ls.foldl (coS EB (f u)) (out.map f) = (ls.foldl (coS EA u) out).map f ∧ ∀ y ∈ ls.foldl (coS EA u) out, 0 ≤ y ∧ y < sA := by
 intro ls
 induction ls with
 | nil => intro out _ ho; exact ⟨rfl, ho⟩
 | cons l ls ih =>
  intro out hl ho
  rw [List.foldl_cons, List.foldl_cons, iso_coS h hA hB hu (hl l List.mem_cons_self) ho]
  exact ih _ (fun x hx => hl x (List.mem_cons_of_mem _ hx)) (coS_rng hA ho)
theorem map_getD (f : Int → Int) (h0 : f 0 = 0) (l : List Int) (i : Nat) : (l.map f).getD i 0 = f (l.getD i 0) := by
 rw [List.getD_eq_getElem?_getD, List.getD_eq_getElem?_getD, List.getElem?_map]
 cases l[i]? <;> simp [h0]
theorem iso_coN (h : Iso sA EA sB EB f) (hA : isFo r sA EA = true) (hB : isFo r sB EB = true) {ls : List Int} (hl : ∀ l ∈ ls, -3 ≤ l ∧ l ≤ 3) : ∀ i, coN EB ls i = (coN EA ls i).map f ∧ ∀ y ∈ coN EA ls i, 0 ≤ y ∧ y < sA := by
 intro i
 have hla := isGr_lim (fo_gr hA).1
 induction i with
 | zero =>
  refine ⟨?_, fun y hy => ?_⟩
  · show [0] = [f 0]; rw [h.zero]
  · have : y ∈ [(0 : Int)] := hy
    simp at this; omega
 | succ i ih =>
  obtain ⟨ih1, ih2⟩ := ih
  unfold coN
  rw [ih1, List.length_map]
  by_cases c : i < (coN EA ls i).length
  · rw [if_pos c, if_pos c, coR_full, coR_full, map_getD f h.zero]
    have hm : (coN EA ls i).getD i 0 ∈ coN EA ls i := mem_getI.2 ⟨i, c, rfl⟩
    exact iso_coR h hA hB (ih2 _ hm) ls _ hl ih2
  · rw [if_neg c, if_neg c]
    exact ⟨rfl, ih2⟩
theorem iso_canon (h : Iso sA EA sB EB f) (hA : isFo r sA EA = true) (hB : isFo r sB EB = true) : cgS r sA EA = cgS r sB EB ∧ cgE r sA EA = cgE r sB EB := by
 have hla := isGr_lim (fo_gr hA).1
 obtain ⟨_, a2, a3, a4⟩ := order_up hA
 obtain ⟨_, b2, b3, b4⟩ := order_up hB
 have hln : ∀ l ∈ letsN r.toNat, -3 ≤ l ∧ l ≤ 3 := fun l hl => by have := letsN_in r.toNat l hl; omega
 obtain ⟨c1, c2⟩ := iso_coN h hA hB hln 40
 have eA : cgL r sA EA = coN EA (letsN r.toNat) 40 := by unfold cgL coL; rw [if_pos hA]
 have eB : cgL r sB EB = (cgL r sA EA).map f := by rw [eA, ← c1]; unfold cgL coL; rw [if_pos hB]
 rw [← eA] at c2
 generalize cgL r sA EA = zs at *
 rw [eB] at b2 b3 b4
 rw [List.length_map] at b2
 refine ⟨by rw [a2, b2], ?_⟩
 rw [a3, b3]
 refine ascE_ext (ren_asc a4) (ren_asc b4) fun x => ?_
 rw [ren_mem a4, ren_mem b4, List.length_map]
 constructor
 · rintro ⟨p1, p2, p3⟩
   refine ⟨p1, p2, ?_⟩
   rw [map_getD f h.zero, map_getD f h.zero]
   have q1 := c2 _ (mem_getI.2 ⟨x.1.toNat, by omega, rfl⟩)
   have q2 := c2 _ (mem_getI.2 ⟨x.2.2.toNat, by omega, rfl⟩)
   exact (h.ed _ _ _ q1.1 q1.2 q2.1 q2.2).1 p3
 · rintro ⟨p1, p2, p3⟩
   refine ⟨p1, p2, ?_⟩
   rw [map_getD f h.zero, map_getD f h.zero] at p3
   have q1 := c2 _ (mem_getI.2 ⟨x.1.toNat, by omega, rfl⟩)
   have q2 := c2 _ (mem_getI.2 ⟨x.2.2.toNat, by omega, rfl⟩)
   exact (h.ed _ _ _ q1.1 q1.2 q2.1 q2.2).2 p3
def mapE (f : Int → Int) (e : Ed) : Ed := (f e.1, e.2.1, f e.2.2)
theorem deg_map {s : Int} {f : Int → Int} (hi : ∀ u v, 0 ≤ u → u < s → 0 ≤ v → v < s → f u = f v → u = v) {v : Int} (hv : 0 ≤ v ∧ v < s) : ∀ es : List Ed, (∀ e ∈ es, (0 ≤ e.1 ∧ e.1 < s) ∧ (0 ≤ e.2.2 ∧ e.2.2 < s)) → degE (f v) (es.map (mapE f)) = degE v es := by
 intro es
 induction es with
 | nil => intro _; rfl
 | cons e es ih =>
  intro h
  obtain ⟨h1, h2⟩ := h e List.mem_cons_self
  have k1 : (f e.1 = f v) ↔ (e.1 = v) := ⟨fun q => hi _ _ h1.1 h1.2 hv.1 hv.2 q, fun q => by rw [q]⟩
  have k2 : (f e.2.2 = f v) ↔ (e.2.2 = v) := ⟨fun q => hi _ _ h2.1 h2.2 hv.1 hv.2 q, fun q => by rw [q]⟩
  rw [List.map_cons]
  simp only [degE, mapE]
  rw [ih (fun x hx => h x (List.mem_cons_of_mem _ hx))]
  simp only [k1, k2]
theorem fil_in {s : Int} {es : List Ed} {K : List Int} (hE : ∀ e ∈ es, (0 ≤ e.1 ∧ e.1 < s) ∧ (0 ≤ e.2.2 ∧ e.2.2 < s)) : ∀ e ∈ fil K es, (0 ≤ e.1 ∧ e.1 < s) ∧ (0 ≤ e.2.2 ∧ e.2.2 < s) := fun e he => hE e (mem_fil.1 he).1
theorem gr_ends {r s : Int} {es : List Ed} (h : isGr r s es = true) : ∀ e ∈ es, (0 ≤ e.1 ∧ e.1 < s) ∧ (0 ≤ e.2.2 ∧ e.2.2 < s) := fun e he => ⟨(gr_mem8 h he).1, (gr_mem8 h he).2.1⟩
theorem iso_fil (h : Iso sA EA sB EB f) (gA : isGr r sA EA = true) (gB : isGr r sB EB = true) {K : List Int} (hK : ∀ y ∈ K, 0 ≤ y ∧ y < sA) (x : Ed) : x ∈ fil (K.map f) EB ↔ x ∈ (fil K EA).map (mapE f) := by
 rw [mem_fil]
 constructor
 · rintro ⟨he, h1, h2⟩
   obtain ⟨u, hu, e1⟩ := List.mem_map.1 h1
   obtain ⟨v, hv, e2⟩ := List.mem_map.1 h2
   have hu2 := hK u hu
   have hv2 := hK v hv
   obtain ⟨a, l, b⟩ := x
   simp only at e1 e2
   subst e1 e2
   exact List.mem_map.2 ⟨(u, l, v), mem_fil.2 ⟨(h.ed u l v hu2.1 hu2.2 hv2.1 hv2.2).2 he, hu, hv⟩, rfl⟩
 · intro hx
   obtain ⟨⟨u, l, v⟩, he, rfl⟩ := List.mem_map.1 hx
   obtain ⟨h1, h2, h3⟩ := mem_fil.1 he
   have := gr_ends gA _ h1
   exact ⟨(h.ed u l v this.1.1 this.1.2 this.2.1 this.2.2).1 h1, List.mem_map.2 ⟨u, h2, rfl⟩, List.mem_map.2 ⟨v, h3, rfl⟩⟩
theorem fil_nd {r s : Int} {es : List Ed} (h : isGr r s es = true) (K : List Int) : (fil K es).Nodup := by
 unfold fil
 exact (ascE_nd (asc_of_gr h)).filter _
theorem iso_deg (h : Iso sA EA sB EB f) (gA : isGr r sA EA = true) (gB : isGr r sB EB = true) {K : List Int} (hK : ∀ y ∈ K, 0 ≤ y ∧ y < sA) {v : Int} (hv : 0 ≤ v ∧ v < sA) : degE (f v) (fil (K.map f) EB) = degE v (fil K EA) := by
 have hin := fil_in (K := K) (gr_ends gA)
 have hnd : ((fil K EA).map (mapE f)).Nodup := by
  unfold List.Nodup
  rw [List.pairwise_map]
  refine List.Pairwise.imp_of_mem ?_ (fil_nd gA K)
  intro a b ha hb hab e
  have h1 := hin a ha
  have h2 := hin b hb
  unfold mapE at e
  simp only [Prod.mk.injEq] at e
  have k1 := h.inj _ _ h1.1.1 h1.1.2 h2.1.1 h2.1.2 e.1
  have k2 := h.inj _ _ h1.2.1 h1.2.2 h2.2.1 h2.2.2 e.2.2
  exact hab (Prod.ext k1 (Prod.ext e.2.1 k2))
 rw [degE_perm ((List.perm_ext_iff_of_nodup (fil_nd gB _) hnd).2 (fun x => iso_fil h gA gB hK x))]
 exact deg_map h.inj hv _ hin
theorem iso_con (h : Iso sA EA sB EB f) (gA : isGr r sA EA = true) (gB : isGr r sB EB = true) {K : List Int} (hK : ∀ y ∈ K, 0 ≤ y ∧ y < sA) {v : Int} (hc : Con (fil K EA) 0 v) : Con (fil (K.map f) EB) 0 (f v) := by
 intro P h0 hP
 refine hc (fun u => P (f u)) (by show P (f 0); rw [h.zero]; exact h0) (fun e he => ?_)
 exact hP (mapE f e) ((iso_fil h gA gB hK _).2 (List.mem_map.2 ⟨e, he, rfl⟩))
theorem iso_good (h : Iso sA EA sB EB f) (gA : isGr r sA EA = true) (gB : isGr r sB EB = true) {K : List Int} (hG : Good sA EA K) : Good sB EB (K.map f) := by
 have hK : ∀ y ∈ K, 0 ≤ y ∧ y < sA := fun y hy => (hG y hy).1
 intro y hy
 obtain ⟨v, hv, rfl⟩ := List.mem_map.1 hy
 obtain ⟨h1, h2⟩ := hG v hv
 refine ⟨h.rng v h1.1 h1.2, fun hn => ?_⟩
 obtain ⟨d, c⟩ := h2 (fun e => hn (by rw [e, h.zero]))
 rw [iso_deg h gA gB hK h1]
 exact ⟨d, iso_con h gA gB hK c⟩
theorem tm_facts {r s : Int} {es : List Ed} (hg : isGr r s es = true) : Sub s es (tmL r s es) ∧ Good s es (tmL r s es) ∧ tmS r s es = ((tmL r s es).length : Int) ∧ tmE r s es = rnE r s es (tmL r s es) := by
 have hmo := mo_all hg 40
 have hmg := mo_good hg hmo (mo_end hg)
 unfold tmL tmS tmE
 rw [if_pos hg, if_pos hg, if_pos hg]
 exact ⟨hmo.sub, hmg, hmo.sz, hmo.ed⟩
theorem iso_trim (h : Iso sA EA sB EB f) (gA : isGr r sA EA = true) (gB : isGr r sB EB = true) : ∃ g, Iso (tmS r sA EA) (tmE r sA EA) (tmS r sB EB) (tmE r sB EB) g := by
 have hla := isGr_lim gA
 have hlb := isGr_lim gB
 obtain ⟨sa, ga, za, ea⟩ := tm_facts gA
 obtain ⟨sb, gb, zb, eb⟩ := tm_facts gB
 obtain ⟨f', hf', h1, h2⟩ := h.symm (by omega)
 have hmem : ∀ v, 0 ≤ v → v < sA → (v ∈ tmL r sA EA ↔ f v ∈ tmL r sB EB) := fun v q0 q1 => by
  constructor
  · intro hv
    exact sb.big _ (iso_good h gA gB ga) _ (List.mem_map.2 ⟨v, hv, rfl⟩)
  · intro hv
    have := sa.big _ (iso_good hf' gB gA gb) _ (List.mem_map.2 ⟨f v, hv, rfl⟩)
    rw [h1 v q0 q1] at this; exact this
 have okA := sa.ok gA
 have okB := sb.ok gB
 have hda := sa.head
 have hdb := sb.head
 rw [za, zb, ea, eb]
 have hinA : ∀ y ∈ tmL r sA EA, 0 ≤ y ∧ y < sA := fun y hy => by have := sa.co.2 y hy; omega
 have hinB : ∀ y ∈ tmL r sB EB, 0 ≤ y ∧ y < sB := fun y hy => by have := sb.co.2 y hy; omega
 have ndA := sa.co.1
 have ndB := sb.co.1
 generalize tmL r sA EA = LA at *
 generalize tmL r sB EB = LB at *
 have hex : ∀ i : Int, ∃ j : Int, 0 ≤ i ∧ i < (LA.length : Int) → (0 ≤ j ∧ j < (LB.length : Int)) ∧ LB.getD j.toNat 0 = f (LA.getD i.toNat 0) := fun i => by
  by_cases c : 0 ≤ i ∧ i < (LA.length : Int)
  · have hm : LA.getD i.toNat 0 ∈ LA := mem_getI.2 ⟨i.toNat, by omega, rfl⟩
    have hr := hinA _ hm
    obtain ⟨j, hj, e⟩ := mem_getI.1 ((hmem _ hr.1 hr.2).1 hm)
    exact ⟨(j : Int), fun _ => ⟨by omega, by rw [Int.toNat_natCast]; exact e⟩⟩
  · exact ⟨0, fun c' => absurd c' c⟩
 obtain ⟨g, hg⟩ := Classical.axiomOfChoice hex
 refine ⟨g, ?_, fun v q0 q1 => (hg v ⟨q0, q1⟩).1, fun u v a b c d e => ?_, fun y q0 q1 => ?_, fun u l v a b c d => ?_⟩
 · obtain ⟨q1, q2⟩ := hg 0 ⟨by omega, by omega⟩
   rw [show (0 : Int).toNat = 0 from rfl, hda.1, h.zero] at q2
   have := nd_inj ndB (i := (g 0).toNat) (j := 0) (by omega) (by omega) (q2.trans hdb.1.symm)
   omega
 · obtain ⟨_, u2⟩ := hg u ⟨a, b⟩
   obtain ⟨_, v2⟩ := hg v ⟨c, d⟩
   rw [e, v2] at u2
   have hu := hinA _ (mem_getI.2 ⟨u.toNat, by omega, rfl⟩)
   have hv := hinA _ (mem_getI.2 ⟨v.toNat, by omega, rfl⟩)
   have hw := h.inj _ _ hv.1 hv.2 hu.1 hu.2 u2
   have := nd_inj ndA (by omega) (by omega) hw
   omega
 · have hm : LB.getD y.toNat 0 ∈ LB := mem_getI.2 ⟨y.toNat, by omega, rfl⟩
   have hr := hinB _ hm
   obtain ⟨v, v0, v1, ve⟩ := h.sur _ hr.1 hr.2
   obtain ⟨i, hi, e⟩ := mem_getI.1 ((hmem v v0 v1).2 (by rw [ve]; exact hm))
   obtain ⟨q2, q3⟩ := hg (i : Int) ⟨by omega, by omega⟩
   rw [Int.toNat_natCast, e, ve] at q3
   have := nd_inj ndB (by omega) (by omega) q3
   exact ⟨(i : Int), by omega, by omega, by omega⟩
 · obtain ⟨u1, u2⟩ := hg u ⟨a, b⟩
   obtain ⟨v1, v2⟩ := hg v ⟨c, d⟩
   have hu := hinA _ (mem_getI.2 ⟨u.toNat, by omega, rfl⟩)
   have hv := hinA _ (mem_getI.2 ⟨v.toNat, by omega, rfl⟩)
   rw [ren_mem okA, ren_mem okB]
   simp only
   rw [u2, v2, h.ed _ l _ hu.1 hu.2 hv.1 hv.2]
   exact ⟨fun ⟨_, _, q⟩ => ⟨u1, v1, q⟩, fun ⟨_, _, q⟩ => ⟨⟨a, b⟩, ⟨c, d⟩, q⟩⟩
end
end Go.Proofs.YtfpklgmahbhecaaGreat
