import Derived.WalkKit
import Derived.Deep.Cut
import Derived.Test.YtgnomlcjikfdhaaGreatJ12Me
import Derived.Test.YtgnomlcjikfdhaaGreatJ5Me
import Derived.Test.YtgnomlcjikfdhaaGreatSrt
import Derived.Test.YtgnomlcjikfdhaaGreatJ11Me
import Derived.Test.YtgnomlcjikfdhaaGreatJ1Me
import Derived.Test.YtgnomlcjikfdhaaGreatJ0Me
import Derived.Test.YtgnomlcjikfdhaaGreatJ3Me
import Derived.Test.YtgnomlcjikfdhaaGreatRows
namespace Go.Proofs.YtgnomlcjikfdhaaGreat
open Go.RowKit
set_option linter.unusedVariables false
set_option linter.unusedSimpArgs false
def LJ (w : World) (n : Int) (e : Ending) (w' : World) : Prop := e = .returned (.int .i64 n) ∧ ∃ q os', w' = Go.Sort.grow (w.drewN q) os'
set_option maxRecDepth 100000 in
set_option maxHeartbeats 1600000 in
theorem Jc (w : World) (f l t f' l' t' : Int) :
 Calls Tryz.prog 86 #[.agg #[.int .i64 f, .int .i64 l, .int .i64 t], .agg #[.int .i64 f', .int .i64 l', .int .i64 t']] w (LJ w (bP (f, l, t) (f', l', t'))) := by
 obtain ⟨c, hc⟩ := ag (bP (f, l, t) (f', l', t')); have hor := DV f l t f' l' t'; rw [← hc] at hor ⊢; obtain ⟨w1, hw1⟩ := ag ((w.alloc (.cells #[.int .i64 f, .int .i64 l, .int .i64 t] 36)).alloc (.cells #[.int .i64 f', .int .i64 l', .int .i64 t'] 36)); have e1 : w1 = Go.Sort.grow w #[.cells #[.int .i64 f, .int .i64 l, .int .i64 t] 36, .cells #[.int .i64 f', .int .i64 l', .int .i64 t'] 36] := by rw [hw1, Go.Sort.alloc_eq_grow, Go.Sort.alloc_eq_grow, Go.Sort.grow_grow]; rfl
 replace e1 := ae e1; have hb1 : Below w.heap.size w w1 := by rw [hw1]; exact ((Below.refl _ _).alloc (nl _) _).alloc (by simp) _
 have hg := dH w (.cells #[.int .i64 f, .int .i64 l, .int .i64 t] 36) (.cells #[.int .i64 f', .int .i64 l', .int .i64 t'] 36); have hh := heap_alloc_new (w.alloc (.cells #[.int .i64 f, .int .i64 l, .int .i64 t] 36)) (.cells #[.int .i64 f', .int .i64 l', .int .i64 t'] 36); rw [← hw1] at hg hh; rw [show (w.alloc (.cells #[.int .i64 f, .int .i64 l, .int .i64 t] 36)).heap.size = w.heap.size + 1 by simp] at hh
 obtain ⟨g0, g1, g2⟩ := ah hg; obtain ⟨k0, k1, k2⟩ := ah hh; simp at g0 g1 g2 k0 k1 k2
 obtain ⟨x, hx⟩ := ag (kT f f'); obtain ⟨y, hy⟩ := ag (kT l l'); obtain ⟨z, hz⟩ := ag (kT t t'); have y1 := fun W => uG W f f'
 have y2 := fun W => uG W l l'
 have y3 := fun W => uG W t t'
 rw [← hx, ← hy, ← hz] at hor; rw [← hx] at y1; rw [← hy] at y2; rw [← hz] at y3; replace hc := ae hc; replace hw1 := ae hw1; replace hor := ae hor; replace hx := ae hx; replace hy := ae hy; replace hz := ae hz; clear hg hh; go_enter Tryz.func86, Tryz.ntmps86
 go_wp2; rw [← hw1.out]; refine wp_region_still_tail 15 (by kernel_rfl) (by kernel_rfl) ?_
 simp only [List.take_succ_cons, List.take_zero, List.drop_succ_cons, List.drop_zero]; repeat still_step
 still_call (y1 _)
 repeat still_step
 still_call (y2 _)
 repeat still_step
 still_call (y3 _)
 refine wpStill_nil ?_; change wpList _ _ _ _ _ w1.drew
 obtain ⟨w2, hw2⟩ := ag w1.drew; rw [← hw2]; have hb2 : Below w.heap.size w w2 := by rw [hw2]; exact bf hb1 1
 obtain ⟨w3, hw3⟩ := ag (w2.alloc (.cells #[.int .i64 x, .int .i64 y, .int .i64 z] 3)); have hb3 : Below w.heap.size w w3 := by rw [hw3]; exact hb2.alloc hb2.size _
 have hh3 := heap_alloc_new w2 (.cells #[.int .i64 x, .int .i64 y, .int .i64 z] 3); rw [← hw3] at hh3; have hcall := Dx w3 w2.heap.size x y z (by
  intro k hk; have hk3 : k = 0 ∨ k = 1 ∨ k = 2 := by omega
  have h2 := cell_of_heap hh3 k; simp at h2
  rcases hk3 with rfl | rfl | rfl <;> simpa [l9] using h2)
 have e2 : w2 = Go.Sort.grow (w.drewN 1) #[.cells #[.int .i64 f, .int .i64 l, .int .i64 t] 36, .cells #[.int .i64 f', .int .i64 l', .int .i64 t'] 36] := by rw [hw2, e1.out]; rfl
 have hgr : ∃ q os', w3 = Go.Sort.grow (w.drewN q) os' := ⟨1, _, by rw [hw3, e2, Go.Sort.alloc_eq_grow, Go.Sort.grow_grow]⟩
 replace hgr := ae hgr; clear e2; replace hw2 := ae hw2; replace hw3 := ae hw3; clear hh3 g0 g1 g2 k0 k1 k2 y1 y2 y3; go_wp2_with fail; rw [← hw3.out]; refine hcall.mono ?_; rintro e w4 ⟨rfl, rfl⟩; go_wp2; go_ret; exact ⟨fZ hor.out.symm, hgr.out⟩
def rW (x : Ed) : List Value := [.int .i64 x.1, .int .i64 x.2.1, .int .i64 x.2.2]
theorem NV : Go.Sort.SWO (ltOf bP) where
 irrefl x := by unfold ltOf; rw [lI]; rfl
 trans x y z h1 h2 := by unfold ltOf at *; simp only [decide_eq_true_eq] at *; exact kL h1 h2
 ntrans x y z h1 h2 := by
  unfold ltOf at *; simp only [decide_eq_false_iff_not] at *; have n1 := lu x y; have n2 := lu y z; have n3 := lu x z
  rcases jG x y with c | c | c
  · omega
  · have := qg c; subst this; exact h2
  · rcases jG y z with d | d | d
    · omega
    · have := qg d; subst this; omega
    · have := kL (a := z) (b := y) (c := x) (by omega) (by omega)
      omega
theorem AY {es : List Ed} {i : Nat} (h : i < es.length) : (es.toArray)[i]! = es.getD i e0 := by
 rw [getElem!_pos _ i (by simpa using h), gD, gE h]
 rfl
theorem Le {es : List Ed} {k : Nat} (h : k < es.length * 3) : (rW ((es.toArray)[k / 3]!))[k % 3]! = iv ((aC es).getD k 0) := by
 obtain ⟨i, j, hj, rfl⟩ : ∃ i j, j < 3 ∧ k = i * 3 + j := ⟨k / 3, k % 3, Nat.mod_lt _ (by omega), by omega⟩
 have hi : i < es.length := by omega
 rw [show (i * 3 + j) / 3 = i by omega, show (i * 3 + j) % 3 = j by omega, AY hi]
 obtain ⟨g0, g1, g2⟩ := qX es i hi; have hj3 : j = 0 ∨ j = 1 ∨ j = 2 := by omega
 rcases hj3 with rfl | rfl | rfl
 · rw [Nat.add_zero, g0]; rfl
 · rw [g1]; rfl
 · rw [g2]; rfl
theorem Dn {es : List Ed} {k : Nat} (h : k < es.length * 3) : (Go.Sort.flatK rW 3 es.toArray)[k]! = iv ((aC es).getD k 0) := by
 rw [Go.Sort.get_flatK rW 3 es.toArray k (by simpa using h)]
 exact Le h
def Ky (w : World) (base g cap : Nat) (es : List Ed) (e : Ending) (w' : World) : Prop :=
 e = .returned (.tuple #[]) ∧ w.grownBy w' (some g) ∧ ∃ ds : List Ed, ds.Perm es ∧ ds.Pairwise (fun a b => ¬ bP b a < 0) ∧ bF w' base (.slice (some ⟨g, 0, none⟩) es.length cap) ds
set_option maxHeartbeats 1600000 in
theorem Gz (w : World) (base g cap : Nat) (es : List Ed) (hown : bF w base (.slice (some ⟨g, 0, none⟩) es.length cap) es) (hl : es.length ≤ 100000) :
 Calls Tryz.prog 85 #[.slice (some ⟨g, 0, none⟩) es.length cap, .func (.func 86) #[] #[]] w (Ky w base g cap es) := by
 have hblk := (World.ownsRow.lt hown g rfl).2; have eg : ∀ args w, (callFunc 86 args).run Tryz.prog w = .ok (.enter 86 args) w := enters_of Tryz.func86 (by kernel_rfl) rfl
 have hcmp : CmpLays Tryz.prog 86 #[] rW 3 bP g 0 es.toArray.size w := fun _ _ _ _ x y => Jc _ x.1 x.2.1 x.2.2 y.1 y.2.1 y.2.2
 have hH : Go.Sort.HoldsK rW 3 w g 0 es.toArray := by
  intro j hj; have hj' : j < es.length * 3 := by simpa using hj
  rw [Nat.zero_add]; refine ⟨?_, World.ownsRow.frozenAt hown j⟩; rw [World.ownsRow.cellAt hown j hj', Dn hj', List.getElem?_map, gD]; have : j < (aC es).length := by rw [jD]; exact hj'
  rw [gE this]; rfl
 have hcon := AnyQ.slices_SortFunc Tryz.sortEdge 3 Tryz.isAgg36 Tryz.sizeOf36 rW (fun _ => rfl) (fun x v hv => by
  simp [rW] at hv
  rcases hv with rfl | rfl | rfl <;> rfl) bP NV 86 #[] g 0 cap es.toArray w eg hcmp hH hblk (by simp; omega)
 change Calls Tryz.prog 85 _ _ _ at hcon
 rw [show es.toArray.size = es.length by simp] at hcon
 refine hcon.mono ?_; rintro e w' ⟨rfl, d', n, os, hp, hs, rfl⟩; obtain ⟨hp1, hp2, hp3⟩ := hp; have hsz : d'.size = es.length := by simpa using hp1
 have hperm : d'.toList.Perm es := by
  have h1 : (d'.extract 0 es.length).toList = d'.toList := by rw [← hsz]; simp
  have h2 : (es.toArray.extract 0 es.length).toList = es := by simp
  rw [h1, h2] at hp3; exact hp3
 have hd : d' = d'.toList.toArray := by simp
 have hdl : d'.toList.length = es.length := by simpa using hsz
 obtain ⟨ds, hds⟩ := ag d'.toList; rw [← hds] at hd hperm hdl; subst hd; have hheap : ∀ k, k < w.heap.size → (sortWorldK rW 3 w g 0 n ds.toArray os).heap[k]? = (w.heap.modify g (Go.Sort.onCells (Go.Sort.putCells id 0 (Go.Sort.flatK rW 3 ds.toArray))))[k]? := fun k hk => by
  show ((Go.Sort.mapBlock (Go.Sort.ahead w n) g _).heap ++ os)[k]? = _
  rw [Array.getElem?_append_left (by simp [Go.Sort.mapBlock, Go.Sort.ahead]; exact hk)]
  rfl
 refine ⟨rfl, ⟨rfl, rfl, rfl, ?_, fun k hk hne => ?_⟩, ds, hperm, ?_, ?_⟩
 · show w.heap.size ≤ ((Go.Sort.mapBlock (Go.Sort.ahead w n) g _).heap ++ os).size
   simp [Go.Sort.mapBlock, Go.Sort.ahead]
 · rw [hheap k hk, Array.getElem?_modify, if_neg (fun e => hne (by rw [e]))]
 · rw [List.pairwise_iff_getElem]
   intro i j hi hj hij hc; have := hs i j (Nat.zero_le _) hij (by omega)
   unfold ltOf at this; rw [AY hi, AY hj, gD, gD, gE hi, gE hj] at this; simp only [Option.getD_some, decide_eq_false_iff_not] at this; exact this hc
 · obtain ⟨h1, h2 | ⟨g', cap', cur, hv, hg, hh, hc1, hc2, hc3, hc4⟩⟩ := hown
   · cases h2.1
   · cases hv
     refine ⟨by rw [List.length_map, jD, hdl], .inr ⟨g, cap, _, by rw [hdl], hg, by rw [hheap g hblk, Array.getElem?_modify, if_pos rfl, hh]; rfl, by rw [hdl]; exact hc1, hc2, by simp [Go.Sort.putCells]; exact hc3, ?_⟩⟩
     apply List.ext_getElem?
     intro k; rw [List.getElem?_take, List.getElem?_map]; by_cases hk : k < ds.length * 3
     · have hkc : k < cur.size := by rw [hc3]; rw [hdl] at hk; have : es.length * 3 ≤ cap * 3 := Nat.mul_le_mul_right _ hc1; omega
       have hkf : k < (aC ds).length := by rw [jD]; exact hk
       rw [if_pos hk, Array.getElem?_toList]; unfold Go.Sort.putCells; rw [Array.getElem?_mapIdx, Array.getElem?_eq_getElem hkc, Option.map_some, if_pos ⟨Nat.zero_le _, by simp; exact hk⟩, Nat.sub_zero, Dn hk, gD, gE hkf]
       rfl
     · have hkf : ¬ k < (aC ds).length := by rw [jD]; exact hk
       rw [if_neg hk, List.getElem?_eq_none (by omega)]
       rfl
end Go.Proofs.YtgnomlcjikfdhaaGreat
namespace Go.Proofs.YtgnomlcjikfdhaaGreat
open Go.RowKit
set_option linter.unusedVariables false
set_option linter.unusedSimpArgs false
def Nl (w : World) (n : Int) (e : Ending) (w' : World) : Prop := e = .returned (.int .i64 n) ∧ ∃ m, w' = w.drewN m
abbrev jF (zss : List (List Int)) : Nat := dP (zss.map List.length)
theorem yV {zss : List (List Int)} {k : Nat} (h : k < zss.length) : dP ((zss.map List.length).take (k + 1)) = dP ((zss.map List.length).take k) + (zss.getD k []).length := by
 rw [Gs _ _ (by rw [List.length_map]; exact h), kw]
set_option maxHeartbeats 1600000 in
theorem Hl (w : World) (B : Nat) (v : Value) (zss : List (List Int)) (h : dJ B w v zss) (hs : jF zss ≤ 1000000000) :
 Calls Tryz.prog 175 #[v] w (Nl w (jF zss : Nat)) := by
 have hs' : dP (zss.map List.length) ≤ 1000000000 := hs; have h' := h; obtain ⟨hl, a, cap, rfl, _, _⟩ := h'; obtain ⟨n, hn⟩ := ag zss.length; rw [← hn] at hl h; replace hn := ae hn; replace h := ae h; go_enter Tryz.func175, Tryz.ntmps175
 rw [← hn.out]; go_wp2
 go_loopg [3, 4] n (fun g a i wr => ∃ k m : Nat, k + g = n ∧ i = .int .i64 k ∧ a = .int .i64 (dP ((zss.map List.length).take k) : Nat) ∧ Hid (wr = w.drewN m))
 case atStart => exact ⟨0, 0, by omega, rfl, by simp [dP], ae rfl⟩
 case round =>
  obtain ⟨k, m, hk, rfl, rfl, hw⟩ := hrel; by_cases hlt : k < n
  · have hki : (k : Int) < (n : Int) := by omega
    obtain ⟨b, off, u, rfl, hb, c, r⟩ := h.out.at_ k (by have := hn.out; omega)
    have hst := yV (zss := zss) (k := k) (by have := hn.out; omega)
    have hsl := Dt (zss.map List.length) (k + 1); obtain ⟨_, ai, ci, rfl, _, _⟩ := r; obtain ⟨q, hq⟩ := ag (dP ((zss.map List.length).take k)); obtain ⟨x, hx⟩ := ag ((zss.getD k []).length); rw [← hq, ← hx] at hst; rw [← hx] at c; have hqb : q + x ≤ 1000000000 := by omega
    have cw : wr.cell? ⟨b, off + k, none⟩ = some (.slice ai x ci) := by rw [hw.out]; exact c
    rw [← hq]; replace hst := ae hst; replace hq := ae hq; replace hx := ae hx; replace hk := ae hk; clear c hsl; go_wp2; go_roundg (n - (k + 1))
    case rel => exact ⟨k + 1, m, by have := hk.out; omega, by go_num, by rw [hst.out]; try go_num, hw⟩
    case measure => have := hk.out; omega
  · obtain rfl : k = n := by omega
    have hki : ¬ (k : Int) < (k : Int) := by omega
    have hfull : (zss.map List.length).take k = zss.map List.length := List.take_of_length_le (by rw [List.length_map]; have := hn.out; omega)
    rw [hfull]; replace hk := ae hk; replace hfull := ae hfull; go_wp2; go_ret; exact ⟨rfl, m, hw.out⟩
def jy (r : Int) (zss : List (List Int)) : Bool := decide ((∀ i, i < zss.length → jU r (zss.getD i []) = true) ∧ 1 ≤ r ∧ r ≤ 3 ∧ zss.length ≤ 6 ∧ jF zss < 40)
theorem IX {r : Int} {zss : List (List Int)} {i : Nat} (hi : i < zss.length) (h : jU r (zss.getD i []) = false) : jy r zss = false := by
 unfold jy; rw [decide_eq_false_iff_not]; intro hh; rw [hh.1 i hi] at h
 cases h
theorem Jn {r : Int} {zss : List (List Int)} (h : ∀ i, i < zss.length → jU r (zss.getD i []) = true) : jy r zss = decide (1 ≤ r ∧ r ≤ 3 ∧ zss.length ≤ 6 ∧ jF zss < 40) := by
 unfold jy; congr 1
 rw [eq_iff_iff]; exact ⟨fun h => h.2, fun h' => ⟨h, h'⟩⟩
set_option maxHeartbeats 3200000 in
theorem Jd (w : World) (B : Nat) (v : Value) (zss : List (List Int)) (r : Int) (h : dJ B w v zss) (hs : jF zss ≤ 1000000000) :
 Calls Tryz.prog 168 #[.int .i64 r, v] w (Ef w (jy r zss)) := by
 have h' := h; obtain ⟨hl, a, cap, rfl, _, _⟩ := h'; have hl0 := h; obtain ⟨n, hn⟩ := ag zss.length; rw [← hn] at hl h hl0; replace hn := ae hn; replace h := ae h; replace hl0 := ae hl0; go_enter Tryz.func168, Tryz.ntmps168
 rw [← hn.out]; go_wp2
 go_loopg [5] n (fun g i wr => ∃ k m : Nat, k + g = n ∧ i = .int .i64 k ∧ Hid (∀ j, j < k → jU r (zss.getD j []) = true) ∧ Hid (wr = w.drewN m))
 case atStart => exact ⟨0, 0, by omega, rfl, ae (fun j h => by omega), ae rfl⟩
 case round =>
  obtain ⟨k, m, hk, rfl, heq, hw⟩ := hrel; by_cases hlt : k < n
  · have hki : (k : Int) < (n : Int) := by omega
    obtain ⟨b, off, u, rfl, hb, c, r0⟩ := h.out.at_ k (by have := hn.out; omega)
    have cw : wr.cell? ⟨b, off + k, none⟩ = some u := by rw [hw.out]; exact c
    have hcall := D8 wr B u (zss.getD k []) r (by rw [hw.out]; exact r0)
    clear c r0; replace hk := ae hk; by_cases he : jU r (zss.getD k []) = true
    · rw [he] at hcall
      have hnx : Hid (∀ j, j < k + 1 → jU r (zss.getD j []) = true) := ae fun j hj => by
       by_cases e : j = k
       · subst e; exact he
       · exact heq.out j (by omega)
      replace he := ae he; go_wp2_with fail; refine hcall.mono ?_; rintro e w3 ⟨rfl, m3, rfl⟩; clear hcall; go_wp2; go_roundg (n - (k + 1))
      case rel => exact ⟨k + 1, m + m3, by have := hk.out; omega, by go_num, hnx, ae (by rw [hw.out, World.drewN_drewN])⟩
      case measure => have := hk.out; omega
    · have he' : jU r (zss.getD k []) = false := by simpa using he
      rw [he'] at hcall; have hbad := IX (r := r) (by have := hn.out; omega) he'
      replace hbad := ae hbad; replace he := ae he; replace he' := ae he'; go_wp2_with fail; refine hcall.mono ?_; rintro e w3 ⟨rfl, m3, rfl⟩; clear hcall; go_wp2; go_ret; exact ⟨au hbad.out.symm, m + m3, by rw [hw.out, World.drewN_drewN]⟩
  · obtain rfl : k = n := by omega
    have hki : ¬ (k : Int) < (k : Int) := by omega
    have harew := Jn (r := r) (zss := zss) (fun i hi => heq.out i (by have := hn.out; omega))
    rw [← hn.out] at harew; have hin := iE wr r 1 3; have htot := Hl wr B _ zss (by rw [hw.out]; exact hl0.out) hs
    obtain ⟨T, hT⟩ := ag (jF zss); rw [← hT] at htot harew; replace hT := ae hT; replace hk := ae hk; by_cases g1 : 1 ≤ r ∧ r ≤ 3
    · rw [decide_eq_true g1] at hin
      by_cases g2 : k ≤ 6
      · have g2d : decide ((k : Int) ≤ 6) = true := by rw [decide_eq_true_eq]; omega
        have hans : decide (1 ≤ r ∧ r ≤ 3 ∧ k ≤ 6 ∧ T < 40) = decide ((T : Int) < 40) := by
         congr 1; rw [eq_iff_iff]; constructor
         · intro h; omega
         · intro h; omega
        rw [hans] at harew; replace harew := ae harew; clear hans; replace g1 := ae g1; go_wp2_with fail; refine hin.mono ?_; rintro e w3 ⟨rfl, rfl⟩; clear hin; go_wp2_with fail; refine htot.mono ?_; rintro e w4 ⟨rfl, m4, rfl⟩; clear htot; go_wp2; go_ret; exact ⟨au harew.out.symm, m + m4, by rw [hw.out, World.drewN_drewN]⟩
      · have g2d : decide ((k : Int) ≤ 6) = false := by rw [decide_eq_false_iff_not]; omega
        have hans : decide (1 ≤ r ∧ r ≤ 3 ∧ k ≤ 6 ∧ T < 40) = false := by rw [decide_eq_false_iff_not]; omega
        rw [hans] at harew; replace harew := ae harew; clear hans; replace g1 := ae g1; go_wp2_with fail; refine hin.mono ?_; rintro e w3 ⟨rfl, rfl⟩; clear hin; go_wp2; go_ret; exact ⟨au harew.out.symm, m, hw.out⟩
    · rw [decide_eq_false g1] at hin
      have hans : decide (1 ≤ r ∧ r ≤ 3 ∧ k ≤ 6 ∧ T < 40) = false := by rw [decide_eq_false_iff_not]; omega
      rw [hans] at harew; replace harew := ae harew; clear hans; replace g1 := ae g1; go_wp2_with fail; refine hin.mono ?_; rintro e w3 ⟨rfl, rfl⟩; clear hin; go_wp2; go_ret; exact ⟨au harew.out.symm, m, hw.out⟩
theorem Hw (w : World) (y x : Int) (hy : -9223372036854775808 ≤ y ∧ y ≤ 9223372036854775807) (hx : -9223372036854775808 ≤ x ∧ x ≤ 9223372036854775807) (b : Bool) (hb : inv y x = b) :
 Calls Tryz.prog 167 #[.int .i64 y, .int .i64 x] w fun e w' => e = .returned (.bool b) ∧ w = w' := by
 have he : y = ng x ∧ y ≠ 0 ∧ y ≠ -9223372036854775808 ↔ y + x = 0 ∧ x ≠ 0 := by
  by_cases h1 : x = -9223372036854775808
  · subst h1; rw [tJ]; omega
  · rw [pJ (by omega) hx.2]; omega
 by_cases h1 : y = ng x
 · have g1 : (y == wrap64 (-x)) = true := by rw [beq_iff_eq]; exact h1
   by_cases h2 : y = 0
   · have g2 : (y != 0) = false := by rw [bne_eq_false_iff_eq]; exact h2
     have hbb : b = false := by rw [← hb]; unfold inv; rw [decide_eq_false_iff_not, ← he]; exact fun h => h.2.1 h2
     subst hbb; clear hb he h1 h2; go_enter Tryz.func167, Tryz.ntmps167
     go_wp2; go_ret; exact ⟨rfl, rfl⟩
   · have g2 : (y != 0) = true := by rw [bne_iff_ne]; exact h2
     by_cases h3 : y = -9223372036854775808
     · have g3 : (y != -9223372036854775808) = false := by rw [bne_eq_false_iff_eq]; exact h3
       have hbb : b = false := by rw [← hb]; unfold inv; rw [decide_eq_false_iff_not, ← he]; exact fun h => h.2.2 h3
       subst hbb; clear hb he h1 h2 h3; go_enter Tryz.func167, Tryz.ntmps167
       go_wp2; go_ret; exact ⟨rfl, rfl⟩
     · have g3 : (y != -9223372036854775808) = true := by rw [bne_iff_ne]; exact h3
       have hbb : b = true := by rw [← hb]; unfold inv; rw [decide_eq_true_eq, ← he]; exact ⟨h1, h2, h3⟩
       subst hbb; clear hb he h1 h2 h3; go_enter Tryz.func167, Tryz.ntmps167
       go_wp2; go_ret; exact ⟨rfl, rfl⟩
 · have g1 : (y == wrap64 (-x)) = false := by rw [beq_eq_false_iff_ne]; exact h1
   have hbb : b = false := by rw [← hb]; unfold inv; rw [decide_eq_false_iff_not, ← he]; exact fun h => h1 h.1
   subst hbb; clear hb he h1; go_enter Tryz.func167, Tryz.ntmps167
   go_wp2; go_ret; exact ⟨rfl, rfl⟩
end Go.Proofs.YtgnomlcjikfdhaaGreat
