import Derived.Test.YtfpklgmahbhecaaGreatTV
import Derived.Test.YtfpklgmahbhecaaGreatTR
namespace Go.Proofs.YtfpklgmahbhecaaGreat
open Go.RowKit
set_option linter.unusedVariables false
set_option linter.unusedSimpArgs false
def Fc (h : Nat → Int) (es : List Ed) : Prop := ∀ a ∈ es, ∀ b ∈ es, a.2.1 = b.2.1 → (h a.1.toNat = h b.1.toNat ↔ h a.2.2.toNat = h b.2.2.toNat)
structure NmSt (s : Int) (es : List Ed) (xs : Int) (xe : List Ed) (nm : Nat → Int) : Prop where
 ed : xe = resE nm es
 zero : nm 0 = 0
 rng : ∀ u : Nat, (u : Int) < s → 0 ≤ nm u ∧ nm u < xs
 sur : ∀ y, 0 ≤ y → y < xs → ∃ u : Nat, (u : Int) < s ∧ nm u = y
 ker : ∀ h : Nat → Int, Fc h es → ∀ u v : Nat, (u : Int) < s → (v : Int) < s → nm u = nm v → h u = h v
theorem nm_start {r s : Int} {es : List Ed} (hg : isGr r s es = true) : NmSt s es s es (fun i => (i : Int)) where
 ed := (resE_id (asc_of_gr hg) (fun e he => ⟨(gr_mem8 hg he).1.1, (gr_mem8 hg he).2.1.1⟩)).symm
 zero := rfl
 rng := fun u hu => ⟨by omega, hu⟩
 sur := fun y h0 h1 => ⟨y.toNat, by omega, by show ((y.toNat : Nat) : Int) = y; omega⟩
 ker := fun h _ u v _ _ e => by
  have : u = v := by have e' : (u : Int) = (v : Int) := e; omega
  rw [this]
theorem newV_or {k d a b : Int} (hk : 0 ≤ k ∧ k < d) (ha : 0 ≤ a) (hb : 0 ≤ b) (h : newV k d a = newV k d b) : a = b ∨ (a = k ∧ b = d) ∨ (a = d ∧ b = k) := by
 unfold newV at h
 by_cases h1 : a = d <;> by_cases h2 : b = d
 · left; omega
 · rw [if_pos h1, if_neg h2, if_neg (by omega)] at h
   split at h <;> omega
 · rw [if_neg h1, if_pos h2, if_neg (show ¬ k > d by omega)] at h
   split at h <;> omega
 · rw [if_neg h1, if_neg h2] at h
   split at h <;> split at h <;> omega
theorem getE_memX {es : List Ed} {i : Nat} (h : i < es.length) : es.getD i e0 ∈ es := by
 rw [List.getD_eq_getElem?_getD, List.getElem?_eq_getElem h]
 exact List.getElem_mem h
theorem resE_memX {nm : Nat → Int} {es : List Ed} {x : Ed} : x ∈ resE nm es ↔ ∃ a ∈ es, mE nm a = x := by
 unfold resE
 rw [put_mem, List.mem_map]
theorem minmaxX {x y k d : Int} (h1 : min x y = k) (h2 : max x y = d) : (x = k ∧ y = d) ∨ (x = d ∧ y = k) := by omega
theorem NmSt.pair {s : Int} {es : List Ed} {xs : Int} {xe : List Ed} {nm : Nat → Int} (h : NmSt s es xs xe nm) (hb : ∀ e ∈ es, (0 ≤ e.1 ∧ e.1 < s) ∧ (0 ≤ e.2.2 ∧ e.2.2 < s)) {f : tupF} (hf : f ∈ foldsF xe) {g : Nat → Int} (hg : Fc g es) :
 ∃ u v : Nat, (u : Int) < s ∧ (v : Int) < s ∧ nm u = f.1 ∧ nm v = f.2 ∧ g u = g v := by
 obtain ⟨i, j, hij, hj, hp⟩ := all_mem xe.length (Nat.le_refl _) hf
 obtain ⟨a, ha, ea⟩ := resE_memX.1 (show xe.getD i e0 ∈ resE nm es by rw [← h.ed]; exact getE_memX (by omega))
 obtain ⟨b, hb2, eb⟩ := resE_memX.1 (show xe.getD j e0 ∈ resE nm es by rw [← h.ed]; exact getE_memX hj)
 rw [← ea, ← eb] at hp
 obtain ⟨a1, a2⟩ := hb a ha
 obtain ⟨b1, b2⟩ := hb b hb2
 unfold pairF mE at hp
 simp only at hp
 rcases List.mem_append.1 hp with q | q
 · split at q
   · rename_i c
     rw [List.mem_singleton] at q
     have hfc := (hg a ha b hb2 c.1).1 (h.ker g hg _ _ (by omega) (by omega) c.2)
     rw [q]
     simp only
     rcases minmaxX (rfl : min (nm a.2.2.toNat) (nm b.2.2.toNat) = _) rfl with ⟨m1, m2⟩ | ⟨m1, m2⟩
     · exact ⟨_, _, by omega, by omega, m1, m2, hfc⟩
     · exact ⟨_, _, by omega, by omega, m2, m1, hfc.symm⟩
   · cases q
 · split at q
   · rename_i c
     rw [List.mem_singleton] at q
     have hfc := (hg a ha b hb2 c.1).2 (h.ker g hg _ _ (by omega) (by omega) c.2)
     rw [q]
     simp only
     rcases minmaxX (rfl : min (nm a.1.toNat) (nm b.1.toNat) = _) rfl with ⟨m1, m2⟩ | ⟨m1, m2⟩
     · exact ⟨_, _, by omega, by omega, m1, m2, hfc⟩
     · exact ⟨_, _, by omega, by omega, m2, m1, hfc.symm⟩
   · cases q
theorem NmSt.fold {s : Int} {es : List Ed} {xs : Int} {xe : List Ed} {nm : Nat → Int} (h : NmSt s es xs xe nm) (hb : ∀ e ∈ es, (0 ≤ e.1 ∧ e.1 < s) ∧ (0 ≤ e.2.2 ∧ e.2.2 < s)) {f : tupF} (hf : f ∈ foldsF xe) (hk : 0 ≤ f.1 ∧ f.1 < f.2 ∧ f.2 < xs) :
 NmSt s es (xs - 1) (mergeE f.1 f.2 xe) (fun i => newV f.1 f.2 (nm i)) where
 ed := by rw [resE_next, ← h.ed]
 zero := by
  show newV f.1 f.2 (nm 0) = 0
  rw [h.zero]
  unfold newV
  rw [if_neg (show ¬ (0 : Int) = f.2 by omega), if_neg (by omega)]
 rng := fun u hu => newV_in hk.1 hk.2.1 hk.2.2 (h.rng u hu)
 sur := fun y h0 h1 => by
  by_cases c : y < f.2
  · obtain ⟨u, hu, e⟩ := h.sur y h0 (by omega)
    refine ⟨u, hu, ?_⟩
    show newV f.1 f.2 (nm u) = y
    rw [e]
    unfold newV
    rw [if_neg (show ¬ y = f.2 by omega), if_neg (by omega)]
  · obtain ⟨u, hu, e⟩ := h.sur (y + 1) (by omega) (by omega)
    refine ⟨u, hu, ?_⟩
    show newV f.1 f.2 (nm u) = y
    rw [e]
    unfold newV
    rw [if_neg (show ¬ y + 1 = f.2 by omega), if_pos (by omega)]
    omega
 ker := fun g hg u v hu hv e => by
  obtain ⟨u0, v0, p1, p2, p3, p4, p5⟩ := h.pair hb hf hg
  rcases newV_or ⟨hk.1, hk.2.1⟩ (h.rng u hu).1 (h.rng v hv).1 e with q | ⟨q1, q2⟩ | ⟨q1, q2⟩
  · exact h.ker g hg u v hu hv q
  · rw [h.ker g hg u u0 hu p1 (q1.trans p3.symm), h.ker g hg v v0 hv p2 (q2.trans p4.symm)]; exact p5
  · rw [h.ker g hg u v0 hu p2 (q1.trans p4.symm), h.ker g hg v u0 hv p1 (q2.trans p3.symm)]; exact p5.symm
theorem nm_all {r s : Int} {es : List Ed} (cs : List Int) (hg : isGr r s es = true) : ∀ i, ∃ nm, NmSt s es (orN r s es cs i).s (orN r s es cs i).es nm := by
 intro i
 induction i with
 | zero => exact ⟨_, nm_start hg⟩
 | succ i ih =>
  obtain ⟨nm, h⟩ := ih
  by_cases c : (foldsF (orN r s es cs i).es).length = 0
  · rw [orN, if_pos c]; exact ⟨nm, h⟩
  · rw [or_step c]
    have hgi := or_gr (cs := cs) hg i
    have hmem := getF_mem (chN_lt (cs := cs) (i := i) (Nat.pos_of_ne_zero c))
    have hf := folds_ok hgi hmem
    simp only
    rw [fold_s hf, fold_e hf]
    obtain ⟨_, h1, h2, h3⟩ := okM_iff.1 hf
    exact ⟨_, h.fold (gr_ends hg) hmem ⟨h1, h2, h3⟩⟩
theorem NmSt.closed {s : Int} {es : List Ed} {xs : Int} {xe : List Ed} {nm : Nat → Int} (h : NmSt s es xs xe nm) (hf : foldB xe xe.length = true) (hn : xe.Nodup) : Fc nm es := by
 intro a ha b hb hl
 have h1 : mE nm a ∈ xe := by rw [h.ed]; exact resE_memX.2 ⟨a, ha, rfl⟩
 have h2 : mE nm b ∈ xe := by rw [h.ed]; exact resE_memX.2 ⟨b, hb, rfl⟩
 have key : (nm a.1.toNat = nm b.1.toNat ∨ nm a.2.2.toNat = nm b.2.2.toNat) → mE nm a = mE nm b := fun q => by
  by_cases c : mE nm a = mE nm b
  · exact c
  · exact absurd (show Meets (mE nm a) (mE nm b) from ⟨hl, q⟩) ((fold_iff hn).1 hf _ h1 _ h2 c)
 constructor
 · intro q
   have := key (.inl q)
   exact congrArg (fun e : Ed => e.2.2) this
 · intro q
   have := key (.inr q)
   exact congrArg (fun e : Ed => e.1) this
theorem nm_iso {s : Int} {es : List Ed} {xs ys : Int} {xe ye : List Ed} {nm mm : Nat → Int} (hs : 0 < s) (hb : ∀ e ∈ es, (0 ≤ e.1 ∧ e.1 < s) ∧ (0 ≤ e.2.2 ∧ e.2.2 < s)) (h : NmSt s es xs xe nm) (k : NmSt s es ys ye mm) (hc : Fc nm es) (kc : Fc mm es) : ∃ f, Iso xs xe ys ye f := by
 have hex : ∀ y : Int, ∃ u : Nat, 0 ≤ y ∧ y < xs → (u : Int) < s ∧ nm u = y := fun y => by
  by_cases c : 0 ≤ y ∧ y < xs
  · obtain ⟨u, h1, h2⟩ := h.sur y c.1 c.2
    exact ⟨u, fun _ => ⟨h1, h2⟩⟩
  · exact ⟨0, fun c' => absurd c' c⟩
 obtain ⟨p, hp⟩ := Classical.axiomOfChoice hex
 have hpk : ∀ u : Nat, (u : Int) < s → mm (p (nm u)) = mm u := fun u hu => by
  obtain ⟨a, b⟩ := hp (nm u) (h.rng u hu)
  exact h.ker mm kc _ _ a hu b
 refine ⟨fun y => mm (p y), ?_, fun v q0 q1 => k.rng _ (hp v ⟨q0, q1⟩).1, fun u v a b c d e => ?_, fun y q0 q1 => ?_, fun u l v a b c d => ?_⟩
 · have := hpk 0 (by omega)
   rw [h.zero] at this
   show mm (p 0) = 0
   rw [this, k.zero]
 · obtain ⟨u1, u2⟩ := hp u ⟨a, b⟩
   obtain ⟨v1, v2⟩ := hp v ⟨c, d⟩
   rw [← u2, ← v2]
   exact k.ker nm hc _ _ u1 v1 e
 · obtain ⟨u, hu, e⟩ := k.sur y q0 q1
   have hr := h.rng u hu
   exact ⟨nm u, hr.1, hr.2, (hpk u hu).trans e⟩
 · obtain ⟨u1, u2⟩ := hp u ⟨a, b⟩
   obtain ⟨v1, v2⟩ := hp v ⟨c, d⟩
   rw [h.ed, k.ed, resE_memX, resE_memX]
   constructor
   · rintro ⟨x, hx, ex⟩
     refine ⟨x, hx, ?_⟩
     obtain ⟨x1, x2⟩ := hb x hx
     unfold mE at ex ⊢
     simp only [Prod.mk.injEq] at ex ⊢
     obtain ⟨e1, e2, e3⟩ := ex
     refine ⟨?_, e2, ?_⟩
     · rw [← e1]; exact (hpk _ (by omega)).symm
     · rw [← e3]; exact (hpk _ (by omega)).symm
   · rintro ⟨x, hx, ex⟩
     refine ⟨x, hx, ?_⟩
     obtain ⟨x1, x2⟩ := hb x hx
     unfold mE at ex ⊢
     simp only [Prod.mk.injEq] at ex ⊢
     obtain ⟨e1, e2, e3⟩ := ex
     refine ⟨?_, e2, ?_⟩
     · rw [← u2]; exact k.ker nm hc _ _ (by omega) u1 e1
     · rw [← v2]; exact k.ker nm hc _ _ (by omega) v1 e3
theorem fo_iso {r s : Int} {es : List Ed} (cs ds : List Int) (hg : isGr r s es = true) : ∃ f, Iso (foS r s es cs) (foE r s es cs) (foS r s es ds) (foE r s es ds) f := by
 obtain ⟨nm, h⟩ := nm_all cs hg 40
 obtain ⟨mm, k⟩ := nm_all ds hg 40
 have hl := isGr_lim hg
 have n1 := ascE_nd (asc_of_gr (or_gr (cs := cs) hg 40))
 have n2 := ascE_nd (asc_of_gr (or_gr (cs := ds) hg 40))
 have c1 := h.closed (folds_fo.1 (or_last hg)) n1
 have c2 := k.closed (folds_fo.1 (or_last hg)) n2
 unfold foS foE
 rw [if_pos hg, if_pos hg, if_pos hg, if_pos hg]
 exact nm_iso (by omega) (gr_ends hg) h k c1 c2
end Go.Proofs.YtfpklgmahbhecaaGreat
