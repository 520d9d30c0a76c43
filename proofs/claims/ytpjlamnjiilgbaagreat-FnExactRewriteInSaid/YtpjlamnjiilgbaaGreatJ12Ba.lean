import Derived.Deep.Cut
import Derived.Deep.LoopGhost
import Derived.Deep.RegionHeld3
import Derived.Test.YtpjlamnjiilgbaaGreatJ11Ba
import Derived.Test.YtpjlamnjiilgbaaGreatJ9Ba
import Derived.Test.YtpjlamnjiilgbaaGreatJ7Ba
import Derived.Test.YtpjlamnjiilgbaaGreatJ4Ba
import Derived.Test.YtpjlamnjiilgbaaGreatJ5Ba
import Derived.Test.YtpjlamnjiilgbaaGreatJ3Ba
import Derived.Test.YtpjlamnjiilgbaaGreatJ8Ba
import Derived.Test.YtpjlamnjiilgbaaGreatJ2Ba
namespace Go.Proofs.YtpjlamnjiilgbaaGreat
open Go.RowKit
set_option linter.unusedVariables false
set_option linter.unusedSimpArgs false
theorem stepAt_mem {es : List Ed} {v l y : Int} : StepAt es v l y ↔ ∃ e ∈ es, (v = e.1 ∧ l = e.2.1 ∧ y = e.2.2) ∨ (v = e.2.2 ∧ l = -e.2.1 ∧ y = e.1) := by
 unfold StepAt
 rw [mem_getD]
theorem fo_gr {r s : Int} {es : List Ed} (h : isFo r s es = true) : isGr r s es = true ∧ foldB es es.length = true := by unfold isFo at h; rw [Bool.and_eq_true] at h; exact h
theorem coS_pre8 (es : List Ed) (u : Int) (out : List Int) (l : Int) : ∃ t, coS es u out l = out ++ t := by
 unfold coS; split
 · exact ⟨_, rfl⟩
 · exact ⟨[], (List.append_nil _).symm⟩
theorem fold_pre (es : List Ed) (u : Int) : ∀ (ls out : List Int), ∃ t, ls.foldl (coS es u) out = out ++ t := by
 intro ls
 induction ls with
 | nil => intro out; exact ⟨[], (List.append_nil _).symm⟩
 | cons l r ih =>
  intro out
  obtain ⟨t1, h1⟩ := coS_pre8 es u out l
  obtain ⟨t2, h2⟩ := ih (coS es u out l)
  exact ⟨t1 ++ t2, by rw [List.foldl_cons, h2, h1, List.append_assoc]⟩
theorem coR_full (es : List Ed) (u : Int) (ls out : List Int) : coR es u ls out ls.length = ls.foldl (coS es u) out := by unfold coR; rw [List.take_length]
theorem coN_pre1 (es : List Ed) (ls : List Int) (i : Nat) : ∃ t, coN es ls (i + 1) = coN es ls i ++ t := by
 show ∃ t, (if i < (coN es ls i).length then coR es ((coN es ls i).getD i 0) ls (coN es ls i) ls.length else coN es ls i) = coN es ls i ++ t
 split
 · rw [coR_full]; exact fold_pre es _ ls _
 · exact ⟨[], (List.append_nil _).symm⟩
theorem coN_pre (es : List Ed) (ls : List Int) (i : Nat) : ∀ j, ∃ t, coN es ls (i + j) = coN es ls i ++ t := by
 intro j
 induction j with
 | zero => exact ⟨[], (List.append_nil _).symm⟩
 | succ j ih =>
  obtain ⟨t, ht⟩ := ih
  obtain ⟨t2, h2⟩ := coN_pre1 es ls (i + j)
  exact ⟨t ++ t2, by rw [show i + (j + 1) = i + j + 1 by omega, h2, ht, List.append_assoc]⟩
theorem coN_40 (es : List Ed) (ls : List Int) {i : Nat} (h : i ≤ 40) : ∃ t, coN es ls 40 = coN es ls i ++ t := by
 have := coN_pre es ls i (40 - i)
 rw [show i + (40 - i) = 40 by omega] at this
 exact this
theorem fold_has {es : List Ed} {u : Int} : ∀ {ls out : List Int} {l : Int}, l ∈ ls → 0 ≤ nxV es u l → nxV es u l ∈ ls.foldl (coS es u) out := by
 intro ls
 induction ls with
 | nil => intro out l h; cases h
 | cons x r ih =>
  intro out l h h0
  rw [List.foldl_cons]
  rcases List.mem_cons.1 h with rfl | h
  · obtain ⟨t, ht⟩ := fold_pre es u r (coS es u out l)
    rw [ht, List.mem_append]
    left
    unfold coS
    by_cases hm : nxV es u l ∈ out
    · rw [if_neg (fun c => c.2 hm)]; exact hm
    · rw [if_pos ⟨h0, hm⟩]; exact List.mem_append_right _ (List.mem_singleton.2 rfl)
  · exact ih h h0
theorem getD_pre {a t : List Int} {i : Nat} (h : i < a.length) : (a ++ t).getD i 0 = a.getD i 0 := by
 rw [List.getD_eq_getElem?_getD, List.getElem?_append_left h, List.getD_eq_getElem?_getD]
theorem coN_closed {s : Nat} {es : List Ed} {ls : List Int} (hl : (coN es ls 40).length ≤ 40) {i : Nat} (hi : i < (coN es ls 40).length) {l : Int} (hm : l ∈ ls) (h0 : 0 ≤ nxV es ((coN es ls 40).getD i 0) l) : nxV es ((coN es ls 40).getD i 0) l ∈ coN es ls 40 := by
 have hi2 : i < (coN es ls i).length := by
  rcases Nat.lt_or_ge i (coN es ls i).length with c | c
  · exact c
  · exfalso
    have := coN_stop (es := es) (ls := ls) (i := i) c (40 - i)
    rw [show i + (40 - i) = 40 by omega] at this
    rw [this] at hi
    omega
 obtain ⟨t, ht⟩ := coN_40 es ls (i := i) (by omega)
 obtain ⟨t2, ht2⟩ := coN_40 es ls (i := i + 1) (by omega)
 have hg : (coN es ls 40).getD i 0 = (coN es ls i).getD i 0 := by rw [ht, getD_pre hi2]
 rw [hg] at h0 ⊢
 rw [ht2, List.mem_append]
 left
 rw [coN, if_pos hi2, coR_full]
 exact fold_has hm h0
theorem coN_zero (es : List Ed) (ls : List Int) : (coN es ls 40).getD 0 0 = 0 ∧ 0 < (coN es ls 40).length := by
 obtain ⟨t, ht⟩ := coN_40 es ls (i := 0) (by omega)
 rw [ht]
 constructor
 · rfl
 · rw [List.length_append]; show 0 < 1 + _; omega
theorem fo_order {r s : Int} {es : List Ed} (hf : isFo r s es = true) : CoIn s.toNat (coN es (letsN r.toNat) 40) ∧ okN r s es (coN es (letsN r.toNat) 40) = true ∧ (coN es (letsN r.toNat) 40).length ≤ 40 := by
 have hg := (fo_gr hf).1
 have hl := isGr_lim hg
 have hco := CoIn.all (endsIn_of hg) (by omega) (letsN r.toNat) 40
 have hz := (coN_zero es (letsN r.toNat)).2
 exact ⟨hco, okN_iff.2 ⟨hg, by omega, hco⟩, by have := hco.len; omega⟩
theorem tm_leaf {r s : Int} {es : List Ed} (hg : isGr r s es = true) : ∀ v, 1 ≤ v → v < tmS r s es → 2 ≤ degE v (tmE r s es) ∧ Con (tmE r s es) 0 v := by
 intro v h1 h2
 have h := mo_all hg 40
 have he := mo_end hg
 have hg2 := tm_gr hg
 unfold tmS tmE at *
 rw [if_pos hg] at *
 rw [if_pos hg] at hg2
 have hno := lfN_no _ _ (by omega) he v h1 (by omega)
 have hn2 : ¬ leafB r (trN r s es 40).s (trN r s es 40).es v = true := by rw [hno]; simp
 rw [leafB_iff hg2] at hn2
 constructor
 · omega
 · exact Classical.byContradiction fun hc => hn2 (.inr hc)
theorem con_all {r s : Int} {es : List Ed} (hg : isGr r s es = true) (h : ∀ v, 1 ≤ v → v < s → Con es 0 v) : conG r s es = true := by
 have hl := isGr_lim hg
 have hE := endsIn_of hg
 have hr : reachG r s es 0 = reachL es 0 := by
  unfold reachG
  rw [if_pos]
  rw [hg]
  exact decide_eq_true (by omega)
 have hasc : (reachL es 0).Pairwise (· < ·) := by rw [← upTo_all hE (by omega)]; exact asc_upTo _
 have heq : reachL es 0 = upN s.toNat := by
  refine asc_ext hasc (asc_up _) fun y => ?_
  rw [mem_up]
  constructor
  · intro hy
    rw [← upTo_all hE (by omega)] at hy
    exact (mem_upTo.1 hy).2
  · intro hy
    rw [reach_con hE (by omega)]
    by_cases h0 : y = 0
    · rw [h0]; exact Con.start _ _
    · exact h y (by omega) (by omega)
 unfold conG
 rw [hg, hr, heq, up_len]
 simp; omega
theorem tm_con {r s : Int} {es : List Ed} (hg : isGr r s es = true) : conG r (tmS r s es) (tmE r s es) = true := con_all (tm_gr hg) fun v h1 h2 => (tm_leaf hg v h1 h2).2
theorem tm_id {r s : Int} {es : List Ed} (hg : isGr r s es = true) (h : lf r s es < 0) : tmS r s es = s ∧ tmE r s es = es := by
 have : trN r s es (0 + 40) = trN r s es 0 := trN_stop r s es (i := 0) h 40
 rw [Nat.zero_add] at this
 unfold tmS tmE
 rw [if_pos hg, if_pos hg, this]
 exact ⟨rfl, rfl⟩
end Go.Proofs.YtpjlamnjiilgbaaGreat
namespace Go.Proofs.YtpjlamnjiilgbaaGreat
open Go.RowKit
set_option linter.unusedVariables false
set_option linter.unusedSimpArgs false
structure Iso (sA : Int) (EA : List Ed) (sB : Int) (EB : List Ed) (f : Int → Int) : Prop where
 zero : f 0 = 0
 rng : ∀ v, 0 ≤ v → v < sA → 0 ≤ f v ∧ f v < sB
 inj : ∀ u v, 0 ≤ u → u < sA → 0 ≤ v → v < sA → f u = f v → u = v
 sur : ∀ y, 0 ≤ y → y < sB → ∃ v, 0 ≤ v ∧ v < sA ∧ f v = y
 ed : ∀ u l v, 0 ≤ u → u < sA → 0 ≤ v → v < sA → ((u, l, v) ∈ EA ↔ (f u, l, f v) ∈ EB)
theorem Iso.symm {sA sB : Int} {EA EB : List Ed} {f : Int → Int} (h : Iso sA EA sB EB f) (hA : 0 < sA) : ∃ g, Iso sB EB sA EA g ∧ (∀ v, 0 ≤ v → v < sA → g (f v) = v) ∧ ∀ y, 0 ≤ y → y < sB → f (g y) = y := by
 have hex : ∀ y : Int, ∃ v : Int, 0 ≤ y ∧ y < sB → 0 ≤ v ∧ v < sA ∧ f v = y := fun y => by
  by_cases c : 0 ≤ y ∧ y < sB
  · obtain ⟨v, h1, h2, h3⟩ := h.sur y c.1 c.2
    exact ⟨v, fun _ => ⟨h1, h2, h3⟩⟩
  · exact ⟨0, fun c' => absurd c' c⟩
 obtain ⟨g, hg⟩ := Classical.axiomOfChoice hex
 have hgf : ∀ v, 0 ≤ v → v < sA → g (f v) = v := fun v h0 h1 => by
  obtain ⟨a, b, c⟩ := hg (f v) (h.rng v h0 h1)
  exact h.inj _ _ a b h0 h1 c
 have hfg : ∀ y, 0 ≤ y → y < sB → f (g y) = y := fun y h0 h1 => (hg y ⟨h0, h1⟩).2.2
 refine ⟨g, ⟨?_, fun y h0 h1 => ?_, fun u v a b c d e => ?_, fun v h0 h1 => ?_, fun u l v a b c d => ?_⟩, hgf, hfg⟩
 · have := hgf 0 (by omega) hA
   rw [h.zero] at this; exact this
 · obtain ⟨a, b, _⟩ := hg y ⟨h0, h1⟩; exact ⟨a, b⟩
 · rw [← hfg u a b, ← hfg v c d, e]
 · exact ⟨f v, (h.rng v h0 h1).1, (h.rng v h0 h1).2, hgf v h0 h1⟩
 · obtain ⟨a1, a2, a3⟩ := hg u ⟨a, b⟩
   obtain ⟨c1, c2, c3⟩ := hg v ⟨c, d⟩
   rw [h.ed _ l _ a1 a2 c1 c2, a3, c3]
theorem Iso.le {sA sB : Int} {EA EB : List Ed} {f : Int → Int} (h : Iso sA EA sB EB f) (hA : 0 < sA) (hB : 0 < sB) : sA ≤ sB := by
 have hc : CoIn sB.toNat ((upN sA.toNat).map f) := by
  refine ⟨?_, fun y hy => ?_⟩
  · unfold List.Nodup
    rw [List.pairwise_map]
    refine List.Pairwise.imp_of_mem ?_ (asc_up sA.toNat)
    intro a b ha hb hab e
    have ha2 := mem_up.1 ha
    have hb2 := mem_up.1 hb
    have := h.inj a b ha2.1 (by omega) hb2.1 (by omega) e
    omega
  · obtain ⟨v, hv, rfl⟩ := List.mem_map.1 hy
    have hv2 := mem_up.1 hv
    have := h.rng v hv2.1 (by omega)
    omega
 have := hc.len
 rw [List.length_map, up_len] at this
 omega
theorem step_iff {es : List Ed} {v l y : Int} : StepAt es v l y ↔ (v, l, y) ∈ es ∨ (y, -l, v) ∈ es := by
 rw [stepAt_mem]
 constructor
 · rintro ⟨⟨a, b, c⟩, he, ⟨h1, h2, h3⟩ | ⟨h1, h2, h3⟩⟩
   · simp only at h1 h2 h3; subst h1 h2 h3; exact .inl he
   · simp only at h1 h2 h3; subst h1 h2 h3; right; simpa using he
 · rintro (he | he)
   · exact ⟨_, he, .inl ⟨rfl, rfl, rfl⟩⟩
   · exact ⟨_, he, .inr ⟨rfl, by simp, rfl⟩⟩
section
variable {r sA sB : Int} {EA EB : List Ed} {f : Int → Int}
end
end Go.Proofs.YtpjlamnjiilgbaaGreat
namespace Go.Proofs.YtpjlamnjiilgbaaGreat
open Go.RowKit
set_option linter.unusedVariables false
set_option linter.unusedSimpArgs false
inductive Rch (L : List Int) (ea : List Ed) : Int → Prop
 | zero : Rch L ea 0
 | step {x l : Int} : Rch L ea x → l ∈ L → 0 ≤ nxV ea x l → Rch L ea (nxV ea x l)
def Mor (L : List Int) (ea eb : List Ed) (f : Int → Int) : Prop :=
 f 0 = 0 ∧ ∀ x l, Rch L ea x → l ∈ L → 0 ≤ nxV ea x l → 0 ≤ nxV eb (f x) l ∧ f (nxV ea x l) = nxV eb (f x) l
open Classical in
noncomputable def morB (L : List Int) (ea eb : List Ed) : Bool := decide (∃ f, Mor L ea eb f)
theorem morB_iff {L : List Int} {ea eb : List Ed} : morB L ea eb = true ↔ ∃ f, Mor L ea eb f := by
 unfold morB
 simp
structure MoSt (L : List Int) (ea eb : List Ed) (seen : List Int) (img : Int → Int) : Prop where
 base : 0 ∈ seen
 img0 : img 0 = 0
 rch : ∀ x ∈ seen, Rch L ea x
 same : ∀ f, Mor L ea eb f → ∀ x ∈ seen, f x = img x
theorem MoSt.start (L : List Int) (ea eb : List Ed) (img : Int → Int) (h : img 0 = 0) : MoSt L ea eb [0] img where
 base := by simp
 img0 := h
 rch := by intro x hx; simp at hx; subst hx; exact .zero
 same := by intro f hf x hx; simp at hx; subst hx; rw [hf.1, h]
theorem MoSt.none {L : List Int} {ea eb : List Ed} {seen : List Int} {img : Int → Int} (h : MoSt L ea eb seen img) {x l : Int} (hx : x ∈ seen) (hl : l ∈ L) (hn : 0 ≤ nxV ea x l) (hno : nxV eb (img x) l < 0) : morB L ea eb = false := by
 unfold morB
 rw [decide_eq_false_iff_not]
 rintro ⟨f, hf⟩
 have h1 := hf.2 x l (h.rch x hx) hl hn
 rw [h.same f hf x hx] at h1
 omega
theorem MoSt.grow {L : List Int} {ea eb : List Ed} {seen : List Int} {img img' : Int → Int} (h : MoSt L ea eb seen img) {x l : Int} (hx : x ∈ seen) (hl : l ∈ L) (hn : 0 ≤ nxV ea x l) (hnew : nxV ea x l ∉ seen)
 (hat : img' (nxV ea x l) = nxV eb (img x) l) (hel : ∀ z ∈ seen, img' z = img z) : MoSt L ea eb (seen ++ [nxV ea x l]) img' where
 base := List.mem_append_left _ h.base
 img0 := by rw [hel 0 h.base, h.img0]
 rch := by
  intro z hz
  rcases List.mem_append.1 hz with hz | hz
  · exact h.rch z hz
  · simp at hz; subst hz; exact .step (h.rch x hx) hl hn
 same := by
  intro f hf z hz
  rcases List.mem_append.1 hz with hz | hz
  · rw [hel z hz]; exact h.same f hf z hz
  · simp at hz; subst hz
    rw [hat, (hf.2 x l (h.rch x hx) hl hn).2, h.same f hf x hx]
theorem MoSt.done {L : List Int} {ea eb : List Ed} {seen : List Int} {img : Int → Int} (h : MoSt L ea eb seen img)
 (hall : ∀ x ∈ seen, ∀ l ∈ L, 0 ≤ nxV ea x l → nxV ea x l ∈ seen ∧ 0 ≤ nxV eb (img x) l ∧ img (nxV ea x l) = nxV eb (img x) l) : morB L ea eb = true := by
 rw [morB_iff]
 have hs : ∀ x, Rch L ea x → x ∈ seen := by
  intro x hx
  induction hx with
  | zero => exact h.base
  | step _ hl hn ih => exact (hall _ ih _ hl hn).1
 exact ⟨img, h.img0, fun x l hx hl hn => (hall x (hs x hx) l hl hn).2⟩
end Go.Proofs.YtpjlamnjiilgbaaGreat
namespace Go.Proofs.YtpjlamnjiilgbaaGreat
open Go.RowKit
set_option linter.unusedVariables false
set_option linter.unusedSimpArgs false
def isCo (r s : Int) (es : List Ed) : Bool := isFo r s es && decide (lf r s es < 0) && eqG r (cgS r s es) (cgE r s es) r s es
set_option maxRecDepth 100000 in
set_option maxHeartbeats 3200000 in
theorem specIsCo (w : World) (r s : Int) (v : Value) (es : List Ed) (h : ReadE w.heap.size w v es) (hs : -9223372036854775808 ≤ s ∧ s ≤ 9223372036854775807) (hl : es.length ≤ 10000000) :
 Calls Tryz.prog 45 #[.agg #[.int .i64 r, .int .i64 s, v]] w (LwBool w (isCo r s es)) := by
 obtain ⟨a, cap, rfl, hnc⟩ := h.form
 obtain ⟨n, hn⟩ := exq es.length
 rw [← hn] at hl hnc ⊢
 rw [← hn] at h
 obtain ⟨w1, hw1⟩ := exq (w.alloc (.cells #[.int .i64 r, .int .i64 s, .slice a n cap] 26))
 have hb1 : Below w.heap.size w w1 := by rw [hw1]; exact (Below.refl _ _).alloc (Nat.le_refl _) _
 have hs1 : w.heap.size < w1.heap.size := by rw [hw1]; simp
 obtain ⟨g0, g1, g2⟩ := box3 hw1
 obtain ⟨wd, hwd⟩ := exq w1.drew
 have hbd : Below w1.heap.size w1 wd := by rw [hwd]; exact below_dn (Below.refl _ _) 1
 have hsd := hbd.size
 replace g0 := below_cell g0 hbd hs1
 replace g1 := below_cell g1 hbd hs1
 replace g2 := below_cell g2 hbd hs1
 have hb1d := hb1.trans (hbd.mono hb1.size)
 have hsw : w.heap.size < wd.heap.size := by omega
 have hcf := specFold wd r s (.slice a n cap) es ((h.below hb1d).mono hb1d.size) hs (by omega)
 have hle := fun (W : World) (hr : ReadE W.heap.size W (.slice a n cap) es) => specLeaf W r s (.slice a n cap) es hr hs (by omega)
 have hcg := fun (W : World) (hr : ReadE W.heap.size W (.slice a n cap) es) => specCanG W r s (.slice a n cap) es hr hs (by omega)
 have hcl := cgE_length r s es
 obtain ⟨F, hF⟩ := exq (isCo r s es)
 rw [← hF]
 unfold isCo at hF
 obtain ⟨ZS, hZS⟩ := exq (cgS r s es)
 obtain ⟨ZE, hZE⟩ := exq (cgE r s es)
 obtain ⟨f, hf⟩ := exq (lf r s es)
 obtain ⟨B, hB⟩ := exq (isFo r s es)
 rw [← hZS, ← hZE] at hcg
 rw [← hZE] at hcl
 rw [← hf] at hle
 rw [← hB] at hcf
 rw [← hB, ← hf, ← hZS, ← hZE] at hF
 replace hZS := hidI hZS
 replace hZE := hidI hZE
 replace hf := hidI hf
 replace hF := hidI hF
 replace hB := hidI hB
 replace hle := hidI hle
 replace hcg := hidI hcg
 replace hw1 := hidI hw1
 replace hwd := hidI hwd
 replace hn := hidI hn
 replace h := hidI h
 replace hb1d := hidI hb1d
 clear hb1 hbd
 cases B with
 | false =>
  have hfin : Hid (F = false) := hidI (by rw [hF.out]; rfl)
  replace hF := hidI hF
  go_enter Tryz.func45, Tryz.ntmps45
  go_wp2
  rw [← hw1.out]
  refine hideQ (fun _ _ d _ _ h => by cases d <;> exact h) (fun Q' hnorm hpan => ?_)
  refine wp_region_held_drew (S := (fun W0 => W0.cell? ⟨w.heap.size, 0, none⟩ = some (.int .i64 r) ∧ W0.cell? ⟨w.heap.size, 1, none⟩ = some (.int .i64 s) ∧ W0.cell? ⟨w.heap.size, 2, none⟩ = some (.slice a n cap))) (by kernel_rfl) ?_ (fun hHeld => ?_)
  · try dsimp only
    first | ((repeat' apply And.intro) <;> assumption) | (rw [← hwd.out]; ((repeat' apply And.intro) <;> assumption))
  rw [← hwd.out] at hHeld ⊢
  refine tk 0 3 ?_
  refine rd 1 (fun K hK => ?_)
  rw [if_pos (by rfl)]
  go_simp
  refine hcf.mono ?_
  rintro e w2 ⟨rfl, hb2⟩
  have p0 := below_cell g0 hb2 hsw
  have p1 := below_cell g1 hb2 hsw
  have p2 := below_cell g2 hb2 hsw
  have hs2 : w.heap.size < w2.heap.size := by have := hb2.size; omega
  have hb12 := hidI (hb1d.out.trans (hb2.mono hb1d.out.size))
  refine hK.out _ _ ?_ (fun hHeld => ?_)
  · try dsimp only
    first | ((repeat' apply And.intro) <;> assumption) | (rw [← hwd.out]; ((repeat' apply And.intro) <;> assumption))
  clear hK
  try simp only [Act.put, lyA, lyB, lyC]
  refine tk 2 5 ?_
  refine tn 3 6 ?_
  refine tn 4 7 ?_
  refine tn 5 8 ?_
  refine tg 6 9 ?_
  refine tg 7 10 ?_
  refine tn 8 11 ?_
  refine tn 10 13 ?_
  refine tn 9 12 ?_
  refine tn 11 14 ?_
  refine tk 12 15 ?_
  refine tk 13 2 ?_
  refine wpAnyH_done (by kernel_rfl) ?_ _
  refine hnorm _ _ ?_
  clear hnorm hpan
  repeat clear hHeld
  try simp only [Exit.then]
  have hbz := hb1d.out.trans (hb2.mono hb1d.out.size)
  go_wp2
  go_ret
  exact ⟨ret_bool hfin.out.symm, hbz⟩
 | true =>
  by_cases hf0 : f < 0
  case neg =>
   have hfin : Hid (F = false) := hidI (by rw [hF.out, decide_eq_false hf0]; rfl)
   replace hF := hidI hF
   have hfd : decide (f < 0) = false := decide_eq_false hf0
   replace hf0 := hidI hf0
   go_enter Tryz.func45, Tryz.ntmps45
   go_wp2
   rw [← hw1.out]
   refine hideQ (fun _ _ d _ _ h => by cases d <;> exact h) (fun Q' hnorm hpan => ?_)
   refine wp_region_held_drew (S := (fun W0 => W0.cell? ⟨w.heap.size, 0, none⟩ = some (.int .i64 r) ∧ W0.cell? ⟨w.heap.size, 1, none⟩ = some (.int .i64 s) ∧ W0.cell? ⟨w.heap.size, 2, none⟩ = some (.slice a n cap))) (by kernel_rfl) ?_ (fun hHeld => ?_)
   · try dsimp only
     first | ((repeat' apply And.intro) <;> assumption) | (rw [← hwd.out]; ((repeat' apply And.intro) <;> assumption))
   rw [← hwd.out] at hHeld ⊢
   refine tk 0 3 ?_
   refine rd 1 (fun K hK => ?_)
   rw [if_pos (by rfl)]
   go_simp
   refine hcf.mono ?_
   rintro e w2 ⟨rfl, hb2⟩
   have p0 := below_cell g0 hb2 hsw
   have p1 := below_cell g1 hb2 hsw
   have p2 := below_cell g2 hb2 hsw
   have hs2 : w.heap.size < w2.heap.size := by have := hb2.size; omega
   have hb12 := hidI (hb1d.out.trans (hb2.mono hb1d.out.size))
   refine hK.out _ _ ?_ (fun hHeld => ?_)
   · try dsimp only
     first | ((repeat' apply And.intro) <;> assumption) | (rw [← hwd.out]; ((repeat' apply And.intro) <;> assumption))
   clear hK
   try simp only [Act.put, lyA, lyB, lyC]
   refine tk 2 5 ?_
   refine tg 3 6 ?_
   refine rd 4 (fun K hK => ?_)
   rw [if_pos (by kernel_rfl)]
   go_simp
   refine (hle.out w2 ((h.out.below hb12.out).mono hb12.out.size)).mono ?_
   rintro e w3 ⟨rfl, hb3⟩
   have q0 := below_cell p0 hb3 hs2
   have q1 := below_cell p1 hb3 hs2
   have q2 := below_cell p2 hb3 hs2
   have hs3 : w.heap.size < w3.heap.size := by have := hb3.size; omega
   have hb13 := hidI (hb12.out.trans (hb3.mono hb12.out.size))
   refine hK.out _ _ ?_ (fun hHeld => ?_)
   · try dsimp only
     first | ((repeat' apply And.intro) <;> assumption) | (rw [← hwd.out]; ((repeat' apply And.intro) <;> assumption))
   clear hK
   try simp only [Act.put, lyA, lyB, lyC]
   refine tg 5 8 ?_
   try rw [hfd]
   refine tg 6 9 ?_
   refine tg 7 10 ?_
   refine tn 8 11 ?_
   refine tn 10 13 ?_
   refine tn 9 12 ?_
   refine tn 11 14 ?_
   refine tk 12 15 ?_
   refine tk 13 2 ?_
   refine wpAnyH_done (by kernel_rfl) ?_ _
   refine hnorm _ _ ?_
   clear hnorm hpan
   repeat clear hHeld
   try simp only [Exit.then]
   have hbz := hb13.out
   go_wp2
   go_ret
   exact ⟨ret_bool hfin.out.symm, hbz⟩
  case pos =>
   have hfin : Hid (F = eqG r ZS ZE r s es) := hidI (by rw [hF.out, decide_eq_true hf0]; rfl)
   replace hF := hidI hF
   have hfd : decide (f < 0) = true := decide_eq_true hf0
   replace hf0 := hidI hf0
   go_enter Tryz.func45, Tryz.ntmps45
   go_wp2
   rw [← hw1.out]
   refine hideQ (fun _ _ d _ _ h => by cases d <;> exact h) (fun Q' hnorm hpan => ?_)
   refine wp_region_held_drew (S := (fun W0 => W0.cell? ⟨w.heap.size, 0, none⟩ = some (.int .i64 r) ∧ W0.cell? ⟨w.heap.size, 1, none⟩ = some (.int .i64 s) ∧ W0.cell? ⟨w.heap.size, 2, none⟩ = some (.slice a n cap))) (by kernel_rfl) ?_ (fun hHeld => ?_)
   · try dsimp only
     first | ((repeat' apply And.intro) <;> assumption) | (rw [← hwd.out]; ((repeat' apply And.intro) <;> assumption))
   rw [← hwd.out] at hHeld ⊢
   refine tk 0 3 ?_
   refine rd 1 (fun K hK => ?_)
   rw [if_pos (by rfl)]
   go_simp
   refine hcf.mono ?_
   rintro e w2 ⟨rfl, hb2⟩
   have p0 := below_cell g0 hb2 hsw
   have p1 := below_cell g1 hb2 hsw
   have p2 := below_cell g2 hb2 hsw
   have hs2 : w.heap.size < w2.heap.size := by have := hb2.size; omega
   have hb12 := hidI (hb1d.out.trans (hb2.mono hb1d.out.size))
   refine hK.out _ _ ?_ (fun hHeld => ?_)
   · try dsimp only
     first | ((repeat' apply And.intro) <;> assumption) | (rw [← hwd.out]; ((repeat' apply And.intro) <;> assumption))
   clear hK
   try simp only [Act.put, lyA, lyB, lyC]
   refine tk 2 5 ?_
   refine tg 3 6 ?_
   refine rd 4 (fun K hK => ?_)
   rw [if_pos (by kernel_rfl)]
   go_simp
   refine (hle.out w2 ((h.out.below hb12.out).mono hb12.out.size)).mono ?_
   rintro e w3 ⟨rfl, hb3⟩
   have q0 := below_cell p0 hb3 hs2
   have q1 := below_cell p1 hb3 hs2
   have q2 := below_cell p2 hb3 hs2
   have hs3 : w.heap.size < w3.heap.size := by have := hb3.size; omega
   have hb13 := hidI (hb12.out.trans (hb3.mono hb12.out.size))
   refine hK.out _ _ ?_ (fun hHeld => ?_)
   · try dsimp only
     first | ((repeat' apply And.intro) <;> assumption) | (rw [← hwd.out]; ((repeat' apply And.intro) <;> assumption))
   clear hK
   try simp only [Act.put, lyA, lyB, lyC]
   refine tg 5 8 ?_
   try rw [hfd]
   refine tg 6 9 ?_
   refine tg 7 10 ?_
   refine tg 8 11 ?_
   refine tg 10 13 ?_
   refine rd 9 (fun K hK => ?_)
   rw [if_pos (by kernel_rfl)]
   go_simp
   refine (hcg.out w3 ((h.out.below hb13.out).mono hb13.out.size)).mono ?_
   rintro e w4 ⟨ca, cc, rfl, hrow4, hb4⟩
   have u0 := below_cell q0 hb4 hs3
   have u1 := below_cell q1 hb4 hs3
   have u2 := below_cell q2 hb4 hs3
   have hs4 : w.heap.size < w4.heap.size := by have := hb4.size; omega
   have hb14 := hidI (hb13.out.trans (hb4.mono hb13.out.size))
   have heq := specEqG w4 r ZS r s (.slice ca ZE.length cc) (.slice a n cap) ZE es hrow4.read ((h.out.below hb14.out).mono hb14.out.size) (by have := hn.out; omega) (by have := hn.out; omega)
   rw [← hfin.out] at heq
   replace hrow4 := hidI hrow4
   refine hK.out _ _ ?_ (fun hHeld => ?_)
   · try dsimp only
     first | ((repeat' apply And.intro) <;> assumption) | (rw [← hwd.out]; ((repeat' apply And.intro) <;> assumption))
   clear hK
   try simp only [Act.put, lyA, lyB, lyC]
   refine rd 11 (fun K hK => ?_)
   rw [if_pos (by kernel_rfl)]
   go_simp
   refine heq.mono ?_
   rintro e w5 ⟨rfl, hb5⟩
   have x0 := below_cell u0 hb5 hs4
   have x1 := below_cell u1 hb5 hs4
   have x2 := below_cell u2 hb5 hs4
   have hb15 := hidI (hb14.out.trans (hb5.mono hb14.out.size))
   refine hK.out _ _ ?_ (fun hHeld => ?_)
   · try dsimp only
     first | ((repeat' apply And.intro) <;> assumption) | (rw [← hwd.out]; ((repeat' apply And.intro) <;> assumption))
   clear hK
   try simp only [Act.put, lyA, lyB, lyC]
   refine tk 12 15 ?_
   refine tk 13 2 ?_
   refine wpAnyH_done (by kernel_rfl) ?_ _
   refine hnorm _ _ ?_
   clear hnorm hpan
   repeat clear hHeld
   try simp only [Exit.then]
   have hbz := hb15.out
   go_wp2
   go_ret
   exact ⟨rfl, hbz⟩
end Go.Proofs.YtpjlamnjiilgbaaGreat
namespace Go.Proofs.YtpjlamnjiilgbaaGreat
open Go.RowKit
set_option linter.unusedVariables false
set_option linter.unusedSimpArgs false
theorem co_parts {r s : Int} {es : List Ed} (h : isCo r s es = true) : isFo r s es = true ∧ lf r s es < 0 ∧ cgS r s es = s ∧ cgE r s es = es := by
 unfold isCo eqG at h
 rw [Bool.and_eq_true, Bool.and_eq_true, decide_eq_true_eq, decide_eq_true_eq] at h
 exact ⟨h.1.1, h.1.2, h.2.2.1, h.2.2.2⟩
theorem co_lim {r s : Int} {es : List Ed} (h : isCo r s es = true) : isGr r s es = true ∧ 1 ≤ r ∧ r ≤ 3 ∧ 1 ≤ s ∧ s ≤ 40 ∧ es.length ≤ 120 := by
 have h1 := (fo_gr (co_parts h).1).1
 exact ⟨h1, isGr_lim h1⟩
theorem getD_app {out t : List Int} {j : Nat} (h : j < out.length) : (out ++ t).getD j 0 = out.getD j 0 := by
 rw [List.getD_eq_getElem?_getD, List.getElem?_append_left h, List.getD_eq_getElem?_getD]
def imF (im : List Int) (x : Int) : Int := im.getD x.toNat 0
structure PrSt (L : List Int) (ea eb : List Ed) (s : Int) (v : Int) (D : List Int) (im : List Int) : Prop where
 ex : ∃ seen, MoSt L ea eb seen (imF im) ∧ (∀ x ∈ seen, 0 ≤ x ∧ x < s) ∧ (∀ x, 0 ≤ x → x < s → (x ∈ seen ↔ imF im x ≠ -1)) ∧
  (∀ x l, 0 ≤ x → (x < v ∧ l ∈ L ∨ x = v ∧ l ∈ D) → 0 ≤ nxV ea x l → x ∈ seen ∧ nxV ea x l ∈ seen ∧ 0 ≤ nxV eb (imF im x) l ∧ imF im (nxV ea x l) = nxV eb (imF im x) l)
 len : (im.length : Int) = s
theorem imF_set {im : List Int} {x y z : Int} (hx : 0 ≤ x) (hxl : x < (im.length : Int)) (hz : 0 ≤ z) : imF (im.set x.toNat y) z = if z = x then y else imF im z := by
 unfold imF
 rw [getD_set8]
 by_cases h : z = x
 · subst h; rw [if_pos ⟨rfl, by omega⟩, if_pos rfl]
 · rw [if_neg (by omega), if_neg h]
theorem PrSt.start {L : List Int} {ea eb : List Ed} {s : Int} (hs : 1 ≤ s) : PrSt L ea eb s 0 [] ((List.replicate s.toNat (-1)).set 0 0) where
 ex := by
  have hi := fun z (hz : 0 ≤ z) => imF_set (im := List.replicate s.toNat (-1)) (x := 0) (y := 0) (z := z) (by omega) (by rw [List.length_replicate]; omega) hz
  rw [show (0 : Int).toNat = 0 from rfl] at hi
  refine ⟨[0], MoSt.start L ea eb _ (by rw [hi 0 (by omega), if_pos rfl]), ?_, ?_, ?_⟩
  · intro x hx; simp at hx; omega
  · intro x h0 h1
    rw [hi x h0]
    by_cases e : x = 0
    · subst e; simp
    · rw [if_neg e]
      have : imF (List.replicate s.toNat (-1)) x = -1 := by
       unfold imF
       rw [List.getD_eq_getElem?_getD, List.getElem?_replicate, if_pos (by omega)]; rfl
      rw [this]; simp [e]
  · intro x l h0 h
    rcases h with h | h
    · omega
    · cases h.2
 len := by rw [List.length_set, List.length_replicate]; omega
theorem PrSt.skip {L : List Int} {ea eb : List Ed} {s v : Int} {D im : List Int} {l : Int} (h : PrSt L ea eb s v D im) (hn : nxV ea v l < 0) : PrSt L ea eb s v (D ++ [l]) im where
 ex := by
  obtain ⟨seen, h1, h2, h3, h4⟩ := h.ex
  refine ⟨seen, h1, h2, h3, fun x m h0 hx hx2 => ?_⟩
  rcases hx with hx | ⟨hx, hm⟩
  · exact h4 x m h0 (.inl hx) hx2
  · rcases List.mem_append.1 hm with hm | hm
    · exact h4 x m h0 (.inr ⟨hx, hm⟩) hx2
    · simp at hm; subst hm; subst hx; omega
 len := h.len
theorem PrSt.none {L : List Int} {ea eb : List Ed} {s v : Int} {D im : List Int} {l : Int} (h : PrSt L ea eb s v D im) (hv : 0 ≤ v ∧ v < s) (hi : imF im v ≠ -1) (hl : l ∈ L) (hn : 0 ≤ nxV ea v l) (hno : nxV eb (imF im v) l < 0) : morB L ea eb = false := by
 obtain ⟨seen, h1, h2, h3, h4⟩ := h.ex
 exact h1.none ((h3 v hv.1 hv.2).2 hi) hl hn hno
theorem PrSt.put {L : List Int} {ea eb : List Ed} {s v : Int} {D im : List Int} {l : Int} (h : PrSt L ea eb s v D im) (hv : 0 ≤ v ∧ v < s) (hi : imF im v ≠ -1) (hl : l ∈ L) (hn : 0 ≤ nxV ea v l) (hns : nxV ea v l < s) (h2n : 0 ≤ nxV eb (imF im v) l)
 (hor : imF im (nxV ea v l) = -1 ∨ imF im (nxV ea v l) = nxV eb (imF im v) l) : PrSt L ea eb s v (D ++ [l]) (im.set (nxV ea v l).toNat (nxV eb (imF im v) l)) where
 ex := by
  obtain ⟨seen, h1, h2, h3, h4⟩ := h.ex
  have hlen := h.len
  obtain ⟨y, hy⟩ := exq (nxV ea v l)
  obtain ⟨z, hz⟩ := exq (nxV eb (imF im v) l)
  rw [← hy] at hn hns hor
  rw [← hz] at h2n hor
  rw [← hy, ← hz]
  have hset := fun x (hx : 0 ≤ x) => imF_set (im := im) (x := y) (y := z) (z := x) hn (by omega) hx
  have hsv := (h3 v hv.1 hv.2).2 hi
  have hvi : imF (im.set y.toNat z) v = imF im v := by
   rw [hset v hv.1]
   by_cases e : v = y
   · rw [if_pos e]
     rcases hor with q | q
     · rw [← e] at q; exact absurd q hi
     · rw [← e] at q; exact q.symm
   · rw [if_neg e]
  have hsame : ∀ x ∈ seen, imF (im.set y.toNat z) x = imF im x := by
   intro x hx
   rw [hset x (h2 x hx).1]
   by_cases e : x = y
   · rw [if_pos e]
     have q0 := (h3 x (h2 x hx).1 (h2 x hx).2).1 hx
     rw [e] at q0 ⊢
     rcases hor with q | q
     · exact absurd q q0
     · exact q.symm
   · rw [if_neg e]
  have hat : imF (im.set y.toNat z) y = z := by rw [hset y hn, if_pos rfl]
  by_cases hys : y ∈ seen
  · refine ⟨seen, ⟨h1.base, by rw [hsame 0 h1.base]; exact h1.img0, h1.rch, fun f hf x hx => by rw [hsame x hx]; exact h1.same f hf x hx⟩, h2, fun x h0 hx => ?_, fun x m h0 hx hx2 => ?_⟩
    · rw [hset x h0]
      by_cases e : x = y
      · rw [if_pos e, e]; exact ⟨fun _ => by omega, fun _ => hys⟩
      · rw [if_neg e]; exact h3 x h0 hx
    · rcases hx with hx | ⟨hx, hm⟩
      · obtain ⟨a, b, c, d⟩ := h4 x m h0 (.inl hx) hx2
        rw [hsame x a, hsame _ b]; exact ⟨a, b, c, d⟩
      · rcases List.mem_append.1 hm with hm | hm
        · obtain ⟨a, b, c, d⟩ := h4 x m h0 (.inr ⟨hx, hm⟩) hx2
          rw [hsame x a, hsame _ b]; exact ⟨a, b, c, d⟩
        · simp at hm; subst hm; subst hx
          rw [hvi, ← hy, hat, ← hz]; exact ⟨hsv, hys, h2n, rfl⟩
  · refine ⟨seen ++ [y], ?_, ?_, fun x h0 hx => ?_, fun x m h0 hx hx2 => ?_⟩
    · have := h1.grow (img' := imF (im.set y.toNat z)) hsv hl (by rw [← hy]; exact hn) (by rw [← hy]; exact hys) (by rw [← hy, ← hz]; exact hat) (fun x hx => hsame x hx)
      rw [← hy] at this; exact this
    · intro x hx
      rcases List.mem_append.1 hx with hx | hx
      · exact h2 x hx
      · simp at hx; omega
    · rw [hset x h0, List.mem_append, List.mem_singleton]
      by_cases e : x = y
      · rw [if_pos e]; exact ⟨fun _ => by omega, fun _ => .inr e⟩
      · rw [if_neg e, ← h3 x h0 hx]; exact ⟨fun q => q.resolve_right e, .inl⟩
    · rcases hx with hx | ⟨hx, hm⟩
      · obtain ⟨a, b, c, d⟩ := h4 x m h0 (.inl hx) hx2
        rw [hsame x a, hsame _ b]; exact ⟨List.mem_append_left _ a, List.mem_append_left _ b, c, d⟩
      · rcases List.mem_append.1 hm with hm | hm
        · obtain ⟨a, b, c, d⟩ := h4 x m h0 (.inr ⟨hx, hm⟩) hx2
          rw [hsame x a, hsame _ b]; exact ⟨List.mem_append_left _ a, List.mem_append_left _ b, c, d⟩
        · simp at hm; subst hm; subst hx
          rw [hvi, ← hy, hat, ← hz]; exact ⟨List.mem_append_left _ hsv, List.mem_append_right _ (by simp), h2n, rfl⟩
 len := by rw [List.length_set]; exact h.len
theorem PrSt.next {L : List Int} {ea eb : List Ed} {s v : Int} {im : List Int} (h : PrSt L ea eb s v L im) : PrSt L ea eb s (v + 1) [] im where
 ex := by
  obtain ⟨seen, h1, h2, h3, h4⟩ := h.ex
  refine ⟨seen, h1, h2, h3, fun x m h0 hx hx2 => ?_⟩
  rcases hx with ⟨hx, hm⟩ | ⟨hx, hm⟩
  · by_cases e : x = v
    · exact h4 x m h0 (.inr ⟨e, hm⟩) hx2
    · exact h4 x m h0 (.inl ⟨by omega, hm⟩) hx2
  · cases hm
 len := h.len
theorem PrSt.done {L : List Int} {ea eb : List Ed} {s : Int} {im : List Int} (h : PrSt L ea eb s s [] im) : morB L ea eb = true := by
 obtain ⟨seen, h1, h2, h3, h4⟩ := h.ex
 refine h1.done fun x hx l hl hn => ?_
 exact (h4 x l (h2 x hx).1 (.inl ⟨(h2 x hx).2, hl⟩) hn).2
structure MdSt (L : List Int) (ea eb : List Ed) (s : Int) (seen : List Int) (i : Nat) (D : List Int) (im : List Int) : Prop where
 mo : MoSt L ea eb seen (imF im)
 rng : CoIn s.toNat seen
 old : ∀ j, j < i → ∀ l ∈ L, 0 ≤ nxV ea (seen.getD j 0) l → nxV ea (seen.getD j 0) l ∈ seen ∧ 0 ≤ nxV eb (imF im (seen.getD j 0)) l ∧ imF im (nxV ea (seen.getD j 0) l) = nxV eb (imF im (seen.getD j 0)) l
 now : ∀ l ∈ D, 0 ≤ nxV ea (seen.getD i 0) l → nxV ea (seen.getD i 0) l ∈ seen ∧ 0 ≤ nxV eb (imF im (seen.getD i 0)) l ∧ imF im (nxV ea (seen.getD i 0) l) = nxV eb (imF im (seen.getD i 0)) l
 len : (im.length : Int) = s
theorem MdSt.start {L : List Int} {ea eb : List Ed} {s : Int} (hs : 1 ≤ s) : MdSt L ea eb s [0] 0 [] (List.replicate s.toNat 0) where
 mo := MoSt.start L ea eb _ (by unfold imF; rw [List.getD_eq_getElem?_getD, List.getElem?_replicate]; split <;> rfl)
 rng := ⟨by simp, fun y hy => by simp at hy; omega⟩
 old := by intro j h; omega
 now := by intro l h; cases h
 len := by rw [List.length_replicate]; omega
theorem MdSt.next {L : List Int} {ea eb : List Ed} {s : Int} {seen : List Int} {i : Nat} {im : List Int} (h : MdSt L ea eb s seen i L im) : MdSt L ea eb s seen (i + 1) [] im where
 mo := h.mo
 rng := h.rng
 old := by
  intro j hj l hl hn
  by_cases e : j = i
  · subst e; exact h.now l hl hn
  · exact h.old j (by omega) l hl hn
 now := by intro l h; cases h
 len := h.len
theorem MdSt.done {L : List Int} {ea eb : List Ed} {s : Int} {seen : List Int} {i : Nat} {D : List Int} {im : List Int} (h : MdSt L ea eb s seen i D im) (hi : seen.length ≤ i) : morB L ea eb = true := by
 refine h.mo.done fun x hx l hl hn => ?_
 obtain ⟨j, hj, rfl⟩ := mem_getI.1 hx
 exact h.old j (by omega) l hl hn
theorem MdSt.skip {L : List Int} {ea eb : List Ed} {s : Int} {seen : List Int} {i : Nat} {D im : List Int} {l : Int} (h : MdSt L ea eb s seen i D im) (hn : nxV ea (seen.getD i 0) l < 0) : MdSt L ea eb s seen i (D ++ [l]) im where
 mo := h.mo
 rng := h.rng
 old := h.old
 now := by
  intro m hm hx
  rcases List.mem_append.1 hm with hm | hm
  · exact h.now m hm hx
  · simp at hm; subst hm; omega
 len := h.len
theorem MdSt.none {L : List Int} {ea eb : List Ed} {s : Int} {seen : List Int} {i : Nat} {D im : List Int} {l : Int} (h : MdSt L ea eb s seen i D im) (hi : i < seen.length) (hl : l ∈ L) (hn : 0 ≤ nxV ea (seen.getD i 0) l) (hno : nxV eb (imF im (seen.getD i 0)) l < 0) : morB L ea eb = false :=
 h.mo.none (mem_getI.2 ⟨i, hi, rfl⟩) hl hn hno
theorem MdSt.same {L : List Int} {ea eb : List Ed} {s : Int} {seen : List Int} {i : Nat} {D im : List Int} {l : Int} (h : MdSt L ea eb s seen i D im) (h2n : 0 ≤ nxV eb (imF im (seen.getD i 0)) l) (hin : nxV ea (seen.getD i 0) l ∈ seen) (heq : imF im (nxV ea (seen.getD i 0) l) = nxV eb (imF im (seen.getD i 0)) l) : MdSt L ea eb s seen i (D ++ [l]) im where
 mo := h.mo
 rng := h.rng
 old := h.old
 now := by
  intro m hm hx
  rcases List.mem_append.1 hm with hm | hm
  · exact h.now m hm hx
  · simp at hm; subst hm; exact ⟨hin, h2n, heq⟩
 len := h.len
theorem MdSt.grow {L : List Int} {ea eb : List Ed} {s : Int} {seen : List Int} {i : Nat} {D im : List Int} {l : Int} (h : MdSt L ea eb s seen i D im) (hi : i < seen.length) (hl : l ∈ L) (hn : 0 ≤ nxV ea (seen.getD i 0) l) (hns : nxV ea (seen.getD i 0) l < s) (h2n : 0 ≤ nxV eb (imF im (seen.getD i 0)) l) (hnew : nxV ea (seen.getD i 0) l ∉ seen) :
 MdSt L ea eb s (seen ++ [nxV ea (seen.getD i 0) l]) i (D ++ [l]) (im.set (nxV ea (seen.getD i 0) l).toNat (nxV eb (imF im (seen.getD i 0)) l)) := by
 have hlen := h.len
 have hold := h.old
 have hnow := h.now
 have hu : seen.getD i 0 ∈ seen := mem_getI.2 ⟨i, hi, rfl⟩
 obtain ⟨u, hue⟩ := exq (seen.getD i 0)
 rw [← hue] at hn hns h2n hnew hnow hu ⊢
 obtain ⟨y, hy⟩ := exq (nxV ea u l)
 obtain ⟨z, hz⟩ := exq (nxV eb (imF im u) l)
 rw [← hy] at hn hns hnew
 rw [← hz] at h2n
 rw [← hy, ← hz]
 have hset := fun x (hx : 0 ≤ x) => imF_set (im := im) (x := y) (y := z) (z := x) hn (by omega) hx
 have hsame : ∀ x ∈ seen, imF (im.set y.toNat z) x = imF im x := by
  intro x hx
  have hb := h.rng.2 x hx
  rw [hset x hb.1, if_neg (by intro e; subst e; exact hnew hx)]
 have hat : imF (im.set y.toNat z) y = z := by rw [hset y hn, if_pos rfl]
 have hui : (seen ++ [y]).getD i 0 = u := by rw [getD_app hi, hue]
 refine ⟨?_, ⟨?_, ?_⟩, ?_, ?_, by rw [List.length_set]; exact hlen⟩
 · have := h.mo.grow (img' := imF (im.set y.toNat z)) hu hl (by rw [← hy]; exact hn) (by rw [← hy]; exact hnew) (by rw [← hy, ← hz]; exact hat) (fun x hx => hsame x hx)
   rw [← hy] at this; exact this
 · rw [List.nodup_append]
   exact ⟨h.rng.1, by simp, fun a ha b hb => by rw [List.mem_singleton] at hb; subst hb; intro e; subst e; exact hnew ha⟩
 · intro x hx
   rcases List.mem_append.1 hx with hx | hx
   · exact h.rng.2 x hx
   · simp at hx; omega
 · intro j hj m hm hx
   rw [getD_app (by omega)] at hx ⊢
   obtain ⟨a, b, c⟩ := hold j hj m hm hx
   have hjs : seen.getD j 0 ∈ seen := mem_getI.2 ⟨j, by omega, rfl⟩
   rw [hsame _ hjs, hsame _ a]
   exact ⟨List.mem_append_left _ a, b, c⟩
 · intro m hm hx
   rw [hui] at hx ⊢
   rw [hsame u hu]
   rcases List.mem_append.1 hm with hm | hm
   · obtain ⟨a, b, c⟩ := hnow m hm hx
     rw [hsame _ a]; exact ⟨List.mem_append_left _ a, b, c⟩
   · simp at hm; subst hm
     rw [← hy, ← hz, hat]; exact ⟨List.mem_append_right _ (by simp), h2n, rfl⟩
end Go.Proofs.YtpjlamnjiilgbaaGreat
namespace Go.Proofs.YtpjlamnjiilgbaaGreat
open Go.RowKit
set_option linter.unusedVariables false
set_option linter.unusedSimpArgs false
set_option maxHeartbeats 3200000 in
theorem specIsSub (w : World) (r s : Int) (v : Value) (es : List Ed) (h : ReadE w.heap.size w v es) (hs : -9223372036854775808 ≤ s ∧ s ≤ 9223372036854775807) (hl : es.length ≤ 10000000) :
 Calls Tryz.prog 12 #[.agg #[.int .i64 r, .int .i64 s, v]] w (LwBool w (isCo r s es)) := by
 obtain ⟨a, cap, rfl, hnc⟩ := h.form
 obtain ⟨n, hn⟩ := exq es.length
 rw [← hn] at hl hnc ⊢
 rw [← hn] at h
 obtain ⟨w1, hw1⟩ := exq (w.alloc (.cells #[.int .i64 r, .int .i64 s, .slice a n cap] 26))
 have hb1 : Below w.heap.size w w1 := by rw [hw1]; exact (Below.refl _ _).alloc (Nat.le_refl _) _
 have hs1 : w.heap.size < w1.heap.size := by rw [hw1]; simp
 obtain ⟨g0, g1, g2⟩ := box3 hw1
 have hco := specIsCo w1 r s (.slice a n cap) es (by have := (h.below hb1).mono hb1.size; exact this) hs (by omega)
 obtain ⟨B, hB⟩ := exq (isCo r s es)
 rw [← hB] at hco ⊢
 replace hB := hidI hB
 replace hn := hidI hn
 replace h := hidI h
 replace hw1 := hidI hw1
 go_enter Tryz.func12, Tryz.ntmps12
 go_wp2_with fail
 rw [← hw1.out]
 refine hco.mono ?_
 rintro e w2 ⟨rfl, hb2⟩
 clear hco g0 g1 g2
 have hbq := hb1.trans (hb2.mono hb1.size)
 go_wp2
 go_ret
 exact ⟨ret_bool rfl, hbq⟩
end Go.Proofs.YtpjlamnjiilgbaaGreat
namespace Go.Proofs.YtpjlamnjiilgbaaGreat
open Go.RowKit
set_option linter.unusedVariables false
set_option linter.unusedSimpArgs false
def inSu (r s : Int) (es : List Ed) (zs : List Int) : Bool := isCo r s es && walkB r s es 0 (redL zs) && decide (walkV r s es 0 (redL zs) = 0)
set_option maxRecDepth 100000 in
set_option maxHeartbeats 3200000 in
theorem specCont (w : World) (r s : Int) (v : Value) (es : List Ed) (vz : Value) (zs : List Int) (h : ReadE w.heap.size w v es) (hz : ReadI w.heap.size w vz zs) (hs : -9223372036854775808 ≤ s ∧ s ≤ 9223372036854775807) (hin : InR zs) (hl : es.length ≤ 10000000) (hlz : zs.length ≤ 10000000) :
 Calls Tryz.prog 66 #[.agg #[.int .i64 r, .int .i64 s, v], vz] w (LwBool w (inSu r s es zs)) := by
 obtain ⟨a, cap, rfl, hnc⟩ := h.form
 have hz' := hz
 obtain ⟨_, az, capz, rfl, _, _⟩ := hz'
 have hin2 := redL_in hin
 have hrl := redL_length zs
 obtain ⟨n, hn⟩ := exq es.length
 obtain ⟨w1, hw1⟩ := exq (w.alloc (.cells #[.int .i64 r, .int .i64 s, .slice a n cap] 26))
 have hb1 : Below w.heap.size w w1 := by rw [hw1]; exact (Below.refl _ _).alloc (Nat.le_refl _) _
 have hs1 : w.heap.size < w1.heap.size := by rw [hw1]; simp
 obtain ⟨g0, g1, g2⟩ := box3 hw1
 obtain ⟨wd, hwd⟩ := exq w1.drew
 have hbd : Below w1.heap.size w1 wd := by rw [hwd]; exact below_dn (Below.refl _ _) 1
 have hsd := hbd.size
 replace g0 := below_cell g0 hbd hs1
 replace g1 := below_cell g1 hbd hs1
 replace g2 := below_cell g2 hbd hs1
 have hb1d := hb1.trans (hbd.mono hb1.size)
 have hsw : w.heap.size < wd.heap.size := by omega
 have hred := specRed wd (.slice az zs.length capz) zs ((hz.below hb1d).mono hb1d.size) (by omega)
 obtain ⟨F, hF⟩ := exq (inSu r s es zs)
 obtain ⟨RL, hRL⟩ := exq (redL zs)
 rw [← hRL] at hred hin2 hrl
 obtain ⟨V, hV⟩ := exq (walkV r s es 0 RL)
 obtain ⟨KW, hKK⟩ := exq (walkB r s es 0 RL)
 obtain ⟨B, hB⟩ := exq (isCo r s es)
 have hFe : F = (B && KW && decide (V = 0)) := by rw [hF, hB, hKK, hV, hRL]; rfl
 rw [← hF]
 rw [← hn] at hl hnc ⊢
 rw [← hn] at h
 obtain ⟨m, hm⟩ := exq zs.length
 rw [← hm] at hred hlz hrl ⊢
 have hsub := fun (W : World) (hW : Below w.heap.size w W) => specIsSub W r s (.slice a n cap) es ((h.below hW).mono hW.size) hs (by omega)
 rw [← hB] at hsub
 replace hsub := hidI hsub
 replace hFe := hidI hFe
 replace hF := hidI hF
 replace hB := hidI hB
 replace hKK := hidI hKK
 replace hV := hidI hV
 replace hRL := hidI hRL
 replace hn := hidI hn
 replace hm := hidI hm
 replace h := hidI h
 replace hz := hidI hz
 replace hin := hidI hin
 replace hin2 := hidI hin2
 replace hw1 := hidI hw1
 replace hwd := hidI hwd
 replace hb1d := hidI hb1d
 clear hb1 hbd
 go_enter Tryz.func66, Tryz.ntmps66
 go_wp2
 rw [← hw1.out]
 refine hideQ (fun _ _ d _ _ h => by cases d <;> exact h) (fun Q' hnorm hpan => ?_)
 refine wp_region_held_drew (S := (fun W0 => W0.cell? ⟨w.heap.size, 0, none⟩ = some (.int .i64 r) ∧ W0.cell? ⟨w.heap.size, 1, none⟩ = some (.int .i64 s) ∧ W0.cell? ⟨w.heap.size, 2, none⟩ = some (.slice a n cap))) (by kernel_rfl) ?_ (fun hHeld => ?_)
 · try dsimp only
   first | ((repeat' apply And.intro) <;> assumption) | (rw [← hwd.out]; ((repeat' apply And.intro) <;> assumption))
 rw [← hwd.out] at hHeld ⊢
 refine tk 0 8 ?_
 refine tk 1 9 ?_
 refine rd 2 (fun K hK => ?_)
 rw [if_pos (by rfl)]
 go_simp
 refine hred.mono ?_
 rintro e w2 ⟨v1, rfl, hr1, hb2⟩
 clear hred
 replace g0 := below_cell g0 hb2 hsw
 replace g1 := below_cell g1 hb2 hsw
 replace g2 := below_cell g2 hb2 hsw
 have hs2 : w.heap.size < w2.heap.size := by have := hb2.size; omega
 have hb12 := hidI (hb1d.out.trans (hb2.mono hb1d.out.size))
 have hcc := specWalk w2 r s (.slice a n cap) es 0 v1 RL ((h.out.below hb12.out).mono hb12.out.size) hr1.read hs (by omega) hin2.out (by have := hn.out; omega) (by have := hm.out; omega)
 rw [← hV.out, ← hKK.out] at hcc
 replace hr1 := hidI hr1
 refine hK.out _ _ ?_ (fun hHeld => ?_)
 · try dsimp only
   first | ((repeat' apply And.intro) <;> assumption) | (rw [← hwd.out]; ((repeat' apply And.intro) <;> assumption))
 clear hK
 try simp only [Act.put, lyA, lyB, lyC]
 refine rd 3 (fun K hK => ?_)
 rw [if_pos (by rfl)]
 go_simp
 refine hcc.mono ?_
 rintro e w3 ⟨rfl, hb3⟩
 clear hcc
 replace g0 := below_cell g0 hb3 hs2
 replace g1 := below_cell g1 hb3 hs2
 replace g2 := below_cell g2 hb3 hs2
 have hs3 : w.heap.size < w3.heap.size := by have := hb3.size; omega
 have hb13 := hidI (hb12.out.trans (hb3.mono hb12.out.size))
 refine hK.out _ _ ?_ (fun hHeld => ?_)
 · try dsimp only
   first | ((repeat' apply And.intro) <;> assumption) | (rw [← hwd.out]; ((repeat' apply And.intro) <;> assumption))
 clear hK
 try simp only [Act.put, lyA, lyB, lyC]
 refine tk 4 7 ?_
 refine tk 5 12 ?_
 refine tk 6 13 ?_
 refine tk 7 5 ?_
 refine tk 8 6 ?_
 refine wpAnyH_done (by kernel_rfl) ?_ _
 refine hnorm _ _ ?_
 clear hnorm hpan
 repeat clear hHeld
 try simp only [Exit.then]
 have hcc := hsub.out w3 hb13.out
 go_wp2_with fail
 refine hcc.mono ?_
 rintro e w4 ⟨rfl, hb4⟩
 clear hcc
 have hbz := hidI (hb13.out.trans (hb4.mono hb13.out.size))
 replace hb4 := hidI hb4
 cases B with
 | false =>
  have hfin : Hid (F = false) := hidI hFe.out
  replace hFe := hidI hFe
  replace hB := hidI hB
  go_wp2
  go_ret
  exact ⟨ret_bool hfin.out.symm, hbz.out⟩
 | true =>
  cases KW with
  | false =>
   have hfin : Hid (F = false) := hidI hFe.out
   replace hFe := hidI hFe
   replace hB := hidI hB
   replace hKK := hidI hKK
   go_wp2
   go_ret
   exact ⟨ret_bool hfin.out.symm, hbz.out⟩
  | true =>
   replace hB := hidI hB
   replace hKK := hidI hKK
   by_cases e : V = 0
   · have hfin : Hid (F = true) := hidI (by rw [hFe.out, decide_eq_true e]; rfl)
     have he : (V == 0) = true := by rw [beq_iff_eq]; exact e
     replace e := hidI e
     replace hFe := hidI hFe
     go_wp2
     go_ret
     exact ⟨ret_bool hfin.out.symm, hbz.out⟩
   · have hfin : Hid (F = false) := hidI (by rw [hFe.out, decide_eq_false e]; rfl)
     have he : (V == 0) = false := by rw [beq_eq_false_iff_ne]; exact e
     replace e := hidI e
     replace hFe := hidI hFe
     go_wp2
     go_ret
     exact ⟨ret_bool hfin.out.symm, hbz.out⟩
end Go.Proofs.YtpjlamnjiilgbaaGreat
