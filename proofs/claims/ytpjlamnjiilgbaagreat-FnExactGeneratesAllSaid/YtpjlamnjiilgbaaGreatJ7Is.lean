import Derived.WalkKit
import Derived.WalkLawsBesides
import Derived.WalkSpells
import Derived.ProofKit
import Derived.Outline
import Derived.RowKit
import Derived.Below
import Derived.Laws.BitsLemmas
import Derived.IntWalk
import Derived.Lib.Strings
import Derived.Laws.IdiomStrings
import Derived.Deep.RegionLaw
import Derived.Lib.OthersKept
import Derived.Deep.QuietTactic
import Derived.BigQuiet
import Derived.Maps.AppendAt
import Derived.Test.YtpjlamnjiilgbaaGreatRows
import Derived.Test.YtpjlamnjiilgbaaGreatJ3Is
import Derived.Test.YtpjlamnjiilgbaaGreatJ0Is
import Derived.Test.YtpjlamnjiilgbaaGreatJ6Is
import Derived.Test.YtpjlamnjiilgbaaGreatJ5Is
import Derived.Test.YtpjlamnjiilgbaaGreatSrt
namespace Go.Proofs.YtpjlamnjiilgbaaGreat
open Go.RowKit
theorem l1In_yes (x lo hi : Int) (w : World) (h1 : lo ≤ x) (h2 : x ≤ hi) :
 Calls Tryz.prog 140 #[.int .i64 x, .int .i64 lo, .int .i64 hi] w fun e w' => e = .returned (.bool true) ∧ w = w' := by
 go_enter Tryz.func140, Tryz.ntmps140
 go_wp2
 go_ret
 exact ⟨rfl, rfl⟩
theorem l1In_no (x lo hi : Int) (w : World) (h : x < lo ∨ hi < x) :
 Calls Tryz.prog 140 #[.int .i64 x, .int .i64 lo, .int .i64 hi] w fun e w' => e = .returned (.bool false) ∧ w = w' := by
 by_cases h1 : lo ≤ x
 · have h2 : hi < x := by omega
   have h3 : decide (x ≤ hi) = false := by simp; omega
   clear h
   go_enter Tryz.func140, Tryz.ntmps140
   go_wp2
   go_ret
   exact ⟨rfl, rfl⟩
 · clear h
   go_enter Tryz.func140, Tryz.ntmps140
   go_wp2
   go_ret
   exact ⟨rfl, rfl⟩
theorem hid {p : Prop} (h : p) : Hid p := h
set_option linter.unusedVariables false
def bv (b : UInt8) : Value := .int .u8 (b.toNat : Int)
def OwnsB (w : World) (base : Nat) (v : Value) (bs : List UInt8) : Prop := w.ownsRow base 5 1 v bs.length (bs.map bv)
theorem OwnsB.lit (w : World) : OwnsB (w.alloc (.cells #[] 5)) w.heap.size (.slice (some ⟨w.heap.size, 0, none⟩) 0 0) [] := World.ownsRow_lit w #[] 0 (Nat.le_refl _) (Nat.zero_le _) rfl
theorem OwnsB.drew {w : World} {base : Nat} {v : Value} {bs : List UInt8} (h : OwnsB w base v bs) : OwnsB w.drew base v bs := h
def CodeIn (B : Nat) (w : World) (a : Option Addr) (len : Nat) : Prop :=
 len ≤ 1048576 ∧ (len = 0 ∨ ∃ b off, a = some ⟨b, off, none⟩ ∧ b < B ∧ ∀ i, i < len → ∃ c : UInt8, w.cell? ⟨b, off + i, none⟩ = some (.int .u8 (c.toNat : Int)))
theorem CodeIn.below {B : Nat} {w w' : World} {a : Option Addr} {len : Nat} (h : CodeIn B w a len) (hb : Below B w w') : CodeIn B w' a len := by
 refine ⟨h.1, h.2.imp id ?_⟩
 rintro ⟨b, off, ha, hB, hc⟩
 refine ⟨b, off, ha, hB, fun i hi => ?_⟩
 obtain ⟨c, hcell⟩ := hc i hi
 exact ⟨c, by rw [hb.cell (p := ⟨b, off + i, none⟩) hB]; exact hcell⟩
def CurAt (B : Nat) (w : World) (g : Nat) (a : Option Addr) (len cap : Nat) : Prop :=
 B ≤ g ∧ ∃ (i : Nat) (h : Int), i ≤ len ∧ w.heap[g]? = some (.cells #[.slice a len cap, .int .i64 i, .int .i64 h] 87 (0, 0))
theorem CurAt.below {B : Nat} {w w' : World} {g : Nat} {a : Option Addr} {len cap : Nat} (h : CurAt B w g a len cap) (hg : w.grownBy w' (some g)) : Below B w w' := by
 obtain ⟨hB, i, hh, hi, hheap⟩ := h
 have hlt : g < w.heap.size := (Array.getElem?_eq_some_iff.1 hheap).1
 exact ⟨hg.os, hg.tape, hg.output, hg.size, fun k hk => hg.block k (by omega) (fun e => by cases e; omega)⟩
theorem CurAt.lt {B : Nat} {w : World} {g : Nat} {a : Option Addr} {len cap : Nat} (h : CurAt B w g a len cap) : g < w.heap.size := by
 obtain ⟨_, i, hh, _, hheap⟩ := h
 exact (Array.getElem?_eq_some_iff.1 hheap).1
theorem CurAt.alloc {B : Nat} {w : World} {g : Nat} {a : Option Addr} {len cap : Nat} (h : CurAt B w g a len cap) (o : Obj) : CurAt B (w.alloc o) g a len cap := by
 have hlt := h.lt
 obtain ⟨hB, i, hh, hi, hheap⟩ := h
 exact ⟨hB, i, hh, hi, by rw [Below.heap_alloc _ _ _ hlt]; exact hheap⟩
theorem CurAt.over {B base : Nat} {w w' : World} {g : Nat} {a : Option Addr} {len cap : Nat} (h : CurAt B w g a len cap) (hg : g < base) (hb : Below base w w') : CurAt B w' g a len cap := by
 obtain ⟨hB, i, hh, hi, hheap⟩ := h
 exact ⟨hB, i, hh, hi, by rw [hb.block g hg]; exact hheap⟩
end Go.Proofs.YtpjlamnjiilgbaaGreat
namespace Go.Proofs.YtpjlamnjiilgbaaGreat
open Go.RowKit
set_option linter.unusedVariables false
theorem RowI.later {w w' : World} {lo hi : Nat} {v : Value} {zs : List Int} (h : RowI w lo hi v zs) (hb : Below hi w w') (hs : hi ≤ w'.heap.size) : ReadI w'.heap.size w' v zs :=
 ((h.read).below hb).mono hs
theorem OwnsI.later {w w' : World} {base B : Nat} {v : Value} {zs : List Int} (h : OwnsI w base v zs) (hb : Below B w w') (hB : w.heap.size ≤ B) : OwnsI w' base v zs := by
 obtain ⟨hl, h1 | ⟨g, cap, cur, hv, hg, hh, hr⟩⟩ := h
 · exact ⟨hl, .inl h1⟩
 · have hlt : g < w.heap.size := (Array.getElem?_eq_some_iff.1 hh).1
   exact ⟨hl, .inr ⟨g, cap, cur, hv, hg, by rw [hb.block g (by omega)]; exact hh, hr⟩⟩
def okAt (rank : Int) (zs : List Int) (i : Nat) : Prop :=
 zs.getD i 0 ≠ 0 ∧ ng rank ≤ zs.getD i 0 ∧ zs.getD i 0 ≤ rank ∧ (0 < i → zs.getD i 0 ≠ ng (zs.getD (i - 1) 0))
instance (rank : Int) (zs : List Int) (i : Nat) : Decidable (okAt rank zs i) := by unfold okAt; infer_instance
def isW (rank : Int) (zs : List Int) : Bool := decide ((∀ i, i < zs.length → okAt rank zs i) ∧ 1 ≤ rank ∧ rank ≤ 3 ∧ zs.length ≤ 24)
theorem isW_bad {rank : Int} {zs : List Int} {i : Nat} (hi : i < zs.length) (h : ¬ okAt rank zs i) : isW rank zs = false := by
 unfold isW
 rw [decide_eq_false_iff_not]
 exact fun h' => h (h'.1 i hi)
theorem isW_end {rank : Int} {zs : List Int} (h : ∀ i, i < zs.length → okAt rank zs i) : isW rank zs = decide (1 ≤ rank ∧ rank ≤ 3 ∧ zs.length ≤ 24) := by
 unfold isW
 rw [decide_eq_decide]
 exact ⟨fun h' => h'.2, fun h' => ⟨h, h'⟩⟩
set_option maxHeartbeats 1600000 in
theorem specIsW (w : World) (B : Nat) (v : Value) (zs : List Int) (r : Int) (h : ReadI B w v zs) :
 Calls Tryz.prog 163 #[.int .i64 r, v] w (BoolRet w (isW r zs)) := by
 have hr := h
 obtain ⟨hl, a, cap, rfl, _, hq⟩ := h
 clear hq
 obtain ⟨n, hn⟩ := exq zs.length
 rw [← hn] at hr hl ⊢
 replace hn := hidI hn
 replace hr := hidI hr
 go_enter Tryz.func163, Tryz.ntmps163
 go_wp2
 go_loopw [5] (fun i wr => ∃ k m : Nat, k ≤ n ∧ i = .int .i64 k ∧ wr = w.drewN m ∧ ∀ i, i < k → okAt r zs i) (fun i _ => n - (intOf i).toNat)
 case atStart => exact ⟨0, 0, Nat.zero_le _, rfl, rfl, fun i h => by omega⟩
 case round =>
  obtain ⟨k, m, hk, rfl, rfl, heq⟩ := hrel
  by_cases hlt : k < n
  · obtain ⟨x, hx⟩ := exq (zs.getD k 0)
    obtain ⟨y, hy⟩ := exq (zs.getD (k - 1) 0)
    obtain ⟨b, off, rfl, hB, hc⟩ := hr.out.at_ k (by have := hn.out; omega)
    have hcy : 0 < k → w.cell? ⟨b, off + (k - 1), none⟩ = some (.int .i64 y) := by
     intro h0
     obtain ⟨b', off', e, _, hc'⟩ := hr.out.at_ (k - 1) (by have := hn.out; omega)
     cases e
     rw [hy]
     exact hc'
    rw [← hx] at hc
    obtain ⟨w0, hw0⟩ := exq (w.drewN m)
    have hcx : w0.cell? ⟨b, off + k, none⟩ = some (.int .i64 x) := by rw [hw0]; exact hc
    replace hcy : 0 < k → w0.cell? ⟨b, off + (k - 1), none⟩ = some (.int .i64 y) := by rw [hw0]; exact hcy
    have hlt2 : (k : Int) < (n : Int) := by omega
    have hokd : okAt r zs k ↔ x ≠ 0 ∧ ng r ≤ x ∧ x ≤ r ∧ (0 < k → x ≠ ng y) := by unfold okAt; rw [← hx, ← hy]
    have hbad : ¬ okAt r zs k → isW r zs = false := fun h => isW_bad (by have := hn.out; omega) h
    have hnext : okAt r zs k → ∀ i, i < k + 1 → okAt r zs i := by
     intro h i hi
     by_cases e : i = k
     · subst e; exact h
     · exact heq i (by omega)
    rw [← hw0]
    clear hc heq
    replace hw0 := hidI hw0
    replace hx := hidI hx
    replace hy := hidI hy
    by_cases hx0 : x = 0
    · have hb := hidI (hbad (by rw [hokd]; exact fun h => h.1 hx0))
      have hx1 : (x == 0) = true := by rw [beq_iff_eq]; exact hx0
      clear hbad hokd hnext hcy hx0
      go_wp2
      go_quiet (fail)
      go_wp2
      go_ret
      exact ⟨ret_bool hb.out.symm, _, by rw [hw0.out]; exact World.drewN_drewN ..⟩
    · have hx1 : (x == 0) = false := by rw [beq_eq_false_iff_ne]; exact hx0
      have hxn := hidI hx0
      by_cases hin : ng r ≤ x ∧ x ≤ r
      · have hcall : ∀ w', Calls Tryz.prog 140 #[.int .i64 x, .int .i64 (wrap64 (-r)), .int .i64 r] w' fun e w'' => e = .returned (.bool true) ∧ w'' = w' :=
         fun w' => (l1In_yes x (ng r) r w' hin.1 hin.2).mono (fun e w'' h => ⟨h.1, h.2.symm⟩)
        have hin' := hidI hin
        clear hin
        by_cases hk0 : 0 < k
        · have hk1 : decide (0 < (k : Int)) = true := by simp; omega
          have hk2 : (1 : Int) ≤ (k : Int) := by omega
          have hcell := hcy hk0
          obtain ⟨k', rfl⟩ : ∃ k', k = k' + 1 := ⟨k - 1, by omega⟩
          rw [show k' + 1 - 1 = k' by omega] at hcell
          have hidx : ((k' : Int) + 1 - 1) = (k' : Int) := by omega
          by_cases hxy : x = ng y
          · have hb := hidI (hbad (by rw [hokd]; exact fun h => h.2.2.2 hk0 hxy))
            have hxy1 : (x == wrap64 (-y)) = true := by rw [beq_iff_eq]; exact hxy
            clear hbad hokd hnext hcy hx0 hxy
            go_wp2
            go_quiet ((go_at_call 140; exact Calls.quiet_of_same (hcall _)))
            go_wp2
            go_ret
            exact ⟨ret_bool hb.out.symm, _, by rw [hw0.out]; exact World.drewN_drewN ..⟩
          · have hs := hidI (hnext (hokd.2 ⟨hx0, hin'.out.1, hin'.out.2, fun _ => hxy⟩))
            have hxy1 : (x == wrap64 (-y)) = false := by rw [beq_eq_false_iff_ne]; exact hxy
            clear hbad hokd hnext hcy hx0 hxy
            go_wp2
            go_quiet ((go_at_call 140; exact Calls.quiet_of_same (hcall _)))
            go_wp2
            go_roundw
            case rel => exact ⟨k' + 1 + 1, _, by omega, by go_num, by rw [hw0.out]; exact World.drewN_drewN .., hs.out⟩
            case measure => simp [intOf]; omega
        · have hk1 : decide (0 < (k : Int)) = false := by simp; omega
          have hs := hidI (hnext (hokd.2 ⟨hx0, hin'.out.1, hin'.out.2, fun h => absurd h hk0⟩))
          clear hbad hokd hnext hcy hx0
          go_wp2
          go_quiet ((go_at_call 140; exact Calls.quiet_of_same (hcall _)))
          go_wp2
          go_roundw
          case rel => exact ⟨k + 1, _, by omega, by go_num, by rw [hw0.out]; exact World.drewN_drewN .., hs.out⟩
          case measure => simp [intOf]; omega
      · have hcall : ∀ w', Calls Tryz.prog 140 #[.int .i64 x, .int .i64 (wrap64 (-r)), .int .i64 r] w' fun e w'' => e = .returned (.bool false) ∧ w'' = w' :=
         fun w' => (l1In_no x (ng r) r w' (by omega)).mono (fun e w'' h => ⟨h.1, h.2.symm⟩)
        have hb := hidI (hbad (by rw [hokd]; exact fun h => hin ⟨h.2.1, h.2.2.1⟩))
        clear hbad hokd hnext hcy hx0 hin
        go_wp2
        go_quiet ((go_at_call 140; exact Calls.quiet_of_same (hcall _)))
        go_wp2
        go_ret
        exact ⟨ret_bool hb.out.symm, _, by rw [hw0.out]; exact World.drewN_drewN ..⟩
  · obtain rfl : k = n := by omega
    have hend := isW_end (rank := r) (zs := zs) (by rw [← hn.out]; exact heq)
    rw [← hn.out] at hend
    clear heq
    by_cases hin : 1 ≤ r ∧ r ≤ 3
    · have hcall : ∀ w', Calls Tryz.prog 140 #[.int .i64 r, .int .i64 1, .int .i64 3] w' fun e w'' => e = .returned (.bool true) ∧ w' = w'' :=
       fun w' => l1In_yes r 1 3 w' hin.1 hin.2
      by_cases h24 : k ≤ 24
      · have h24i : (k : Int) ≤ 24 := by omega
        have hb : isW r zs = true := by rw [hend]; simp; omega
        replace hb := hidI hb
        clear hend hin
        go_wp2_with fail
        refine (hcall _).mono ?_
        rintro e w3 ⟨rfl, rfl⟩
        go_wp2
        go_ret
        exact ⟨ret_bool hb.out.symm, _, rfl⟩
      · have h24i : ¬ (k : Int) ≤ 24 := by omega
        have hb : isW r zs = false := by rw [hend]; simp; omega
        replace hb := hidI hb
        clear hend hin
        go_wp2_with fail
        refine (hcall _).mono ?_
        rintro e w3 ⟨rfl, rfl⟩
        go_wp2
        go_ret
        exact ⟨ret_bool (by rw [hb.out, decide_eq_false_iff_not]; omega), _, rfl⟩
    · have hcall : ∀ w', Calls Tryz.prog 140 #[.int .i64 r, .int .i64 1, .int .i64 3] w' fun e w'' => e = .returned (.bool false) ∧ w' = w'' :=
       fun w' => l1In_no r 1 3 w' (by omega)
      have hb : isW r zs = false := by rw [hend]; simp; omega
      replace hb := hidI hb
      clear hend hin
      go_wp2_with fail
      refine (hcall _).mono ?_
      rintro e w3 ⟨rfl, rfl⟩
      go_wp2
      go_ret
      exact ⟨ret_bool hb.out.symm, _, rfl⟩
end Go.Proofs.YtpjlamnjiilgbaaGreat
namespace Go.Proofs.YtpjlamnjiilgbaaGreat
open Go.RowKit
set_option linter.unusedVariables false
set_option linter.unusedSimpArgs false
def GrewInt (w : World) (n : Int) (e : Ending) (w' : World) : Prop := e = .returned (.int .i64 n) ∧ ∃ q os', w' = Go.Sort.grow (w.drewN q) os'
set_option maxRecDepth 100000 in
set_option maxHeartbeats 1600000 in
theorem progCmpG (w : World) (f l t f' l' t' : Int) :
 Calls Tryz.prog 127 #[.agg #[.int .i64 f, .int .i64 l, .int .i64 t], .agg #[.int .i64 f', .int .i64 l', .int .i64 t']] w (GrewInt w (cmpE (f, l, t) (f', l', t'))) := by
 obtain ⟨c, hc⟩ := exq (cmpE (f, l, t) (f', l', t'))
 have hor := cmpE_or f l t f' l' t'
 rw [← hc] at hor ⊢
 obtain ⟨w1, hw1⟩ := exq ((w.alloc (.cells #[.int .i64 f, .int .i64 l, .int .i64 t] 72)).alloc (.cells #[.int .i64 f', .int .i64 l', .int .i64 t'] 72))
 have e1 : w1 = Go.Sort.grow w #[.cells #[.int .i64 f, .int .i64 l, .int .i64 t] 72, .cells #[.int .i64 f', .int .i64 l', .int .i64 t'] 72] := by rw [hw1, Go.Sort.alloc_eq_grow, Go.Sort.alloc_eq_grow, Go.Sort.grow_grow]; rfl
 replace e1 := hidI e1
 have hb1 : Below w.heap.size w w1 := by rw [hw1]; exact ((Below.refl _ _).alloc (Nat.le_refl _) _).alloc (by simp) _
 have hg := heap_box w (.cells #[.int .i64 f, .int .i64 l, .int .i64 t] 72) (.cells #[.int .i64 f', .int .i64 l', .int .i64 t'] 72)
 have hh := heap_alloc_new (w.alloc (.cells #[.int .i64 f, .int .i64 l, .int .i64 t] 72)) (.cells #[.int .i64 f', .int .i64 l', .int .i64 t'] 72)
 rw [← hw1] at hg hh
 rw [show (w.alloc (.cells #[.int .i64 f, .int .i64 l, .int .i64 t] 72)).heap.size = w.heap.size + 1 by simp] at hh
 obtain ⟨g0, g1, g2⟩ := cell3 hg
 obtain ⟨k0, k1, k2⟩ := cell3 hh
 simp at g0 g1 g2 k0 k1 k2
 obtain ⟨x, hx⟩ := exq (sgnI f f')
 obtain ⟨y, hy⟩ := exq (sgnI l l')
 obtain ⟨z, hz⟩ := exq (sgnI t t')
 have y1 := fun W => gpCmp W f f'
 have y2 := fun W => gpCmp W l l'
 have y3 := fun W => gpCmp W t t'
 rw [← hx, ← hy, ← hz] at hor
 rw [← hx] at y1
 rw [← hy] at y2
 rw [← hz] at y3
 replace hc := hidI hc
 replace hw1 := hidI hw1
 replace hor := hidI hor
 replace hx := hidI hx
 replace hy := hidI hy
 replace hz := hidI hz
 clear hg hh
 go_enter Tryz.func127, Tryz.ntmps127
 go_wp2
 rw [← hw1.out]
 refine wp_region_still_tail 15 (by kernel_rfl) (by kernel_rfl) ?_
 simp only [List.take_succ_cons, List.take_zero, List.drop_succ_cons, List.drop_zero]
 repeat still_step
 still_call (y1 _)
 repeat still_step
 still_call (y2 _)
 repeat still_step
 still_call (y3 _)
 refine wpStill_nil ?_
 change wpList _ _ _ _ _ w1.drew
 obtain ⟨w2, hw2⟩ := exq w1.drew
 rw [← hw2]
 have hb2 : Below w.heap.size w w2 := by rw [hw2]; exact below_dn hb1 1
 obtain ⟨w3, hw3⟩ := exq (w2.alloc (.cells #[.int .i64 x, .int .i64 y, .int .i64 z] 3))
 have hb3 : Below w.heap.size w w3 := by rw [hw3]; exact hb2.alloc hb2.size _
 have hh3 := heap_alloc_new w2 (.cells #[.int .i64 x, .int .i64 y, .int .i64 z] 3)
 rw [← hw3] at hh3
 have hcall := or3_any w3 w2.heap.size x y z (by
  intro k hk
  have hk3 : k = 0 ∨ k = 1 ∨ k = 2 := by omega
  have h2 := cell_of_heap hh3 k
  simp at h2
  rcases hk3 with rfl | rfl | rfl <;> simpa [nth3] using h2)
 have e2 : w2 = Go.Sort.grow (w.drewN 1) #[.cells #[.int .i64 f, .int .i64 l, .int .i64 t] 72, .cells #[.int .i64 f', .int .i64 l', .int .i64 t'] 72] := by rw [hw2, e1.out]; rfl
 have hgr : ∃ q os', w3 = Go.Sort.grow (w.drewN q) os' := ⟨1, _, by rw [hw3, e2, Go.Sort.alloc_eq_grow, Go.Sort.grow_grow]⟩
 replace hgr := hidI hgr
 clear e2
 replace hw2 := hidI hw2
 replace hw3 := hidI hw3
 clear hh3 g0 g1 g2 k0 k1 k2 y1 y2 y3
 go_wp2_with fail
 rw [← hw3.out]
 refine hcall.mono ?_
 rintro e w4 ⟨rfl, rfl⟩
 go_wp2
 go_ret
 exact ⟨ret_i hor.out.symm, hgr.out⟩
def encE (x : Ed) : List Value := [.int .i64 x.1, .int .i64 x.2.1, .int .i64 x.2.2]
theorem swoE : Go.Sort.SWO (ltOf cmpE) where
 irrefl x := by unfold ltOf; rw [cmpE_self]; rfl
 trans x y z h1 h2 := by unfold ltOf at *; simp only [decide_eq_true_eq] at *; exact cmpE_trans h1 h2
 ntrans x y z h1 h2 := by
  unfold ltOf at *
  simp only [decide_eq_false_iff_not] at *
  have n1 := cmpE_neg x y
  have n2 := cmpE_neg y z
  have n3 := cmpE_neg x z
  rcases cmpE_cases x y with c | c | c
  · omega
  · have := cmpE_zero c; subst this; exact h2
  · rcases cmpE_cases y z with d | d | d
    · omega
    · have := cmpE_zero d; subst this; omega
    · have := cmpE_trans (a := z) (b := y) (c := x) (by omega) (by omega)
      omega
theorem arr_at {es : List Ed} {i : Nat} (h : i < es.length) : (es.toArray)[i]! = es.getD i e0 := by
 rw [getElem!_pos _ i (by simpa using h), List.getD_eq_getElem?_getD, List.getElem?_eq_getElem h]
 rfl
theorem flat_at {es : List Ed} {k : Nat} (h : k < es.length * 3) : (encE ((es.toArray)[k / 3]!))[k % 3]! = iv ((flatE es).getD k 0) := by
 obtain ⟨i, j, hj, rfl⟩ : ∃ i j, j < 3 ∧ k = i * 3 + j := ⟨k / 3, k % 3, Nat.mod_lt _ (by omega), by omega⟩
 have hi : i < es.length := by omega
 rw [show (i * 3 + j) / 3 = i by omega, show (i * 3 + j) % 3 = j by omega, arr_at hi]
 obtain ⟨g0, g1, g2⟩ := flatE_at es i hi
 have hj3 : j = 0 ∨ j = 1 ∨ j = 2 := by omega
 rcases hj3 with rfl | rfl | rfl
 · rw [Nat.add_zero, g0]; rfl
 · rw [g1]; rfl
 · rw [g2]; rfl
theorem flatK_E {es : List Ed} {k : Nat} (h : k < es.length * 3) : (Go.Sort.flatK encE 3 es.toArray)[k]! = iv ((flatE es).getD k 0) := by
 rw [Go.Sort.get_flatK encE 3 es.toArray k (by simpa using h)]
 exact flat_at h
def SortRet (w : World) (base g cap : Nat) (es : List Ed) (e : Ending) (w' : World) : Prop :=
 e = .returned (.tuple #[]) ∧ w.grownBy w' (some g) ∧ ∃ ds : List Ed, ds.Perm es ∧ ds.Pairwise (fun a b => ¬ cmpE b a < 0) ∧ OwnsE w' base (.slice (some ⟨g, 0, none⟩) es.length cap) ds
set_option maxHeartbeats 1600000 in
theorem sortE_any (w : World) (base g cap : Nat) (es : List Ed) (hown : OwnsE w base (.slice (some ⟨g, 0, none⟩) es.length cap) es) (hl : es.length ≤ 100000) :
 Calls Tryz.prog 126 #[.slice (some ⟨g, 0, none⟩) es.length cap, .func (.func 127) #[] #[]] w (SortRet w base g cap es) := by
 have hblk := (World.ownsRow.lt hown g rfl).2
 have eg : ∀ args w, (callFunc 127 args).run Tryz.prog w = .ok (.enter 127 args) w := enters_of Tryz.func127 (by kernel_rfl) rfl
 have hcmp : CmpLays Tryz.prog 127 #[] encE 3 cmpE g 0 es.toArray.size w := fun _ _ _ _ x y => progCmpG _ x.1 x.2.1 x.2.2 y.1 y.2.1 y.2.2
 have hH : Go.Sort.HoldsK encE 3 w g 0 es.toArray := by
  intro j hj
  have hj' : j < es.length * 3 := by simpa using hj
  rw [Nat.zero_add]
  refine ⟨?_, World.ownsRow.frozenAt hown j⟩
  rw [World.ownsRow.cellAt hown j hj', flatK_E hj', List.getElem?_map, List.getD_eq_getElem?_getD]
  have : j < (flatE es).length := by rw [flatE_length]; exact hj'
  rw [List.getElem?_eq_getElem this]
  rfl
 have hcon := AnyQ.slices_SortFunc Tryz.sortEdge 3 Tryz.isAgg72 Tryz.sizeOf72 encE (fun _ => rfl) (fun x v hv => by
  simp [encE] at hv
  rcases hv with rfl | rfl | rfl <;> rfl) cmpE swoE 127 #[] g 0 cap es.toArray w eg hcmp hH hblk (by simp; omega)
 change Calls Tryz.prog 126 _ _ _ at hcon
 rw [show es.toArray.size = es.length by simp] at hcon
 refine hcon.mono ?_
 rintro e w' ⟨rfl, d', n, os, hp, hs, rfl⟩
 obtain ⟨hp1, hp2, hp3⟩ := hp
 have hsz : d'.size = es.length := by simpa using hp1
 have hperm : d'.toList.Perm es := by
  have h1 : (d'.extract 0 es.length).toList = d'.toList := by rw [← hsz]; simp
  have h2 : (es.toArray.extract 0 es.length).toList = es := by simp
  rw [h1, h2] at hp3
  exact hp3
 have hd : d' = d'.toList.toArray := by simp
 have hdl : d'.toList.length = es.length := by simpa using hsz
 obtain ⟨ds, hds⟩ := exq d'.toList
 rw [← hds] at hd hperm hdl
 subst hd
 have hheap : ∀ k, k < w.heap.size → (sortWorldK encE 3 w g 0 n ds.toArray os).heap[k]? = (w.heap.modify g (Go.Sort.onCells (Go.Sort.putCells id 0 (Go.Sort.flatK encE 3 ds.toArray))))[k]? := fun k hk => by
  show ((Go.Sort.mapBlock (Go.Sort.ahead w n) g _).heap ++ os)[k]? = _
  rw [Array.getElem?_append_left (by simp [Go.Sort.mapBlock, Go.Sort.ahead]; exact hk)]
  rfl
 refine ⟨rfl, ⟨rfl, rfl, rfl, ?_, fun k hk hne => ?_⟩, ds, hperm, ?_, ?_⟩
 · show w.heap.size ≤ ((Go.Sort.mapBlock (Go.Sort.ahead w n) g _).heap ++ os).size
   simp [Go.Sort.mapBlock, Go.Sort.ahead]
 · rw [hheap k hk, Array.getElem?_modify, if_neg (fun e => hne (by rw [e]))]
 · rw [List.pairwise_iff_getElem]
   intro i j hi hj hij hc
   have := hs i j (Nat.zero_le _) hij (by omega)
   unfold ltOf at this
   rw [arr_at hi, arr_at hj, List.getD_eq_getElem?_getD, List.getD_eq_getElem?_getD, List.getElem?_eq_getElem hi, List.getElem?_eq_getElem hj] at this
   simp only [Option.getD_some, decide_eq_false_iff_not] at this
   exact this hc
 · obtain ⟨h1, h2 | ⟨g', cap', cur, hv, hg, hh, hc1, hc2, hc3, hc4⟩⟩ := hown
   · cases h2.1
   · cases hv
     refine ⟨by rw [List.length_map, flatE_length, hdl], .inr ⟨g, cap, _, by rw [hdl], hg, by rw [hheap g hblk, Array.getElem?_modify, if_pos rfl, hh]; rfl, by rw [hdl]; exact hc1, hc2, by simp [Go.Sort.putCells]; exact hc3, ?_⟩⟩
     apply List.ext_getElem?
     intro k
     rw [List.getElem?_take, List.getElem?_map]
     by_cases hk : k < ds.length * 3
     · have hkc : k < cur.size := by rw [hc3]; rw [hdl] at hk; have : es.length * 3 ≤ cap * 3 := Nat.mul_le_mul_right _ hc1; omega
       have hkf : k < (flatE ds).length := by rw [flatE_length]; exact hk
       rw [if_pos hk, Array.getElem?_toList]
       unfold Go.Sort.putCells
       rw [Array.getElem?_mapIdx, Array.getElem?_eq_getElem hkc, Option.map_some, if_pos ⟨Nat.zero_le _, by simp; exact hk⟩, Nat.sub_zero, flatK_E hk, List.getD_eq_getElem?_getD, List.getElem?_eq_getElem hkf]
       rfl
     · have hkf : ¬ k < (flatE ds).length := by rw [flatE_length]; exact hk
       rw [if_neg hk, List.getElem?_eq_none (by omega)]
       rfl
end Go.Proofs.YtpjlamnjiilgbaaGreat
