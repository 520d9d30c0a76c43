import Derived.Test.YtpjlamnjiilgbaaGreatJ20Is
import Derived.Test.YtpjlamnjiilgbaaGreatJ2Is
import Derived.Test.YtpjlamnjiilgbaaGreatJ10Is
import Derived.Test.YtpjlamnjiilgbaaGreatJ12Is
namespace Go.Proofs.YtpjlamnjiilgbaaGreat
open Go.RowKit
set_option linter.unusedVariables false
set_option linter.unusedSimpArgs false
set_option maxHeartbeats 3200000 in
theorem specIsSub (w : World) (r s : Int) (v : Value) (es : List Ed) (h : ReadE w.heap.size w v es) (hs : -9223372036854775808 ≤ s ∧ s ≤ 9223372036854775807) (hl : es.length ≤ 10000000) :
 Calls Tryz.prog 12 #[.agg #[.int .i64 r, .int .i64 s, v]] w (LwBool w (isCo r s es)) := by
 obtain ⟨a, cap, rfl, hnc⟩ := h.form
 obtain ⟨n, hn⟩ := exq es.length
 rw [← hn] at hl hnc ⊢
 rw [← hn] at h
 obtain ⟨w1, hw1⟩ := exq (w.alloc (.cells #[.int .i64 r, .int .i64 s, .slice a n cap] 26))
 have hb1 : Below w.heap.size w w1 := by rw [hw1]; exact (Below.refl _ _).alloc (Nat.le_refl _) _
 have hs1 : w.heap.size < w1.heap.size := by rw [hw1]; simp
 obtain ⟨g0, g1, g2⟩ := box3 hw1
 have hco := specIsCo w1 r s (.slice a n cap) es (by have := (h.below hb1).mono hb1.size; exact this) hs (by omega)
 obtain ⟨B, hB⟩ := exq (isCo r s es)
 rw [← hB] at hco ⊢
 replace hB := hidI hB
 replace hn := hidI hn
 replace h := hidI h
 replace hw1 := hidI hw1
 go_enter Tryz.func12, Tryz.ntmps12
 go_wp2_with fail
 rw [← hw1.out]
 refine hco.mono ?_
 rintro e w2 ⟨rfl, hb2⟩
 clear hco g0 g1 g2
 have hbq := hb1.trans (hb2.mono hb1.size)
 go_wp2
 go_ret
 exact ⟨ret_bool rfl, hbq⟩
end Go.Proofs.YtpjlamnjiilgbaaGreat
namespace Go.Proofs.YtpjlamnjiilgbaaGreat
open Go.RowKit
set_option linter.unusedVariables false
set_option linter.unusedSimpArgs false
def euN (r s : Int) (es : List Ed) : Int := if isGr r s es = true then s - (es.length : Int) else 0
def rkN (r s : Int) (es : List Ed) : Int := if isCo r s es = true then (es.length : Int) - s + 1 else -1
set_option maxHeartbeats 3200000 in
theorem specRankOf (w : World) (r s : Int) (v : Value) (es : List Ed) (h : ReadE w.heap.size w v es) (hs : -9223372036854775808 ≤ s ∧ s ≤ 9223372036854775807) (hl : es.length ≤ 10000000) :
 Calls Tryz.prog 61 #[.agg #[.int .i64 r, .int .i64 s, v]] w (LwInt w (rkN r s es)) := by
 obtain ⟨a, cap, rfl, hnc⟩ := h.form
 obtain ⟨n, hn⟩ := exq es.length
 rw [← hn] at hl hnc ⊢
 rw [← hn] at h
 obtain ⟨w1, hw1⟩ := exq (w.alloc (.cells #[.int .i64 r, .int .i64 s, .slice a n cap] 26))
 have hb1 : Below w.heap.size w w1 := by rw [hw1]; exact (Below.refl _ _).alloc (Nat.le_refl _) _
 have hs1 : w.heap.size < w1.heap.size := by rw [hw1]; simp
 obtain ⟨g0, g1, g2⟩ := box3 hw1
 have hco := specIsSub w1 r s (.slice a n cap) es ((h.below hb1).mono hb1.size) hs (by omega)
 obtain ⟨B, hB⟩ := exq (isCo r s es)
 obtain ⟨F, hF⟩ := exq (rkN r s es)
 rw [← hB] at hco
 rw [← hF]
 have hno : B = false → F = -1 := fun q => by rw [hF]; unfold rkN; rw [← hB, q]; rfl
 have hyes : B = true → F = (n : Int) - s + 1 ∧ 1 ≤ s ∧ s ≤ 40 := fun q => by
  have hl := co_lim (hB ▸ q : isCo r s es = true)
  rw [hF]; unfold rkN; rw [← hB, q, hn]; exact ⟨rfl, by omega, by omega⟩
 replace hno := hidI hno
 replace hyes := hidI hyes
 replace hF := hidI hF
 replace hB := hidI hB
 replace hn := hidI hn
 replace h := hidI h
 replace hw1 := hidI hw1
 go_enter Tryz.func61, Tryz.ntmps61
 go_wp2_with fail
 rw [← hw1.out]
 refine hco.mono ?_
 rintro e w2 ⟨rfl, hb2⟩
 clear hco
 have p0 := below_cell g0 hb2 hs1
 have p1 := below_cell g1 hb2 hs1
 have p2 := below_cell g2 hb2 hs1
 have hbq := hidI (hb1.trans (hb2.mono hb1.size))
 clear g0 g1 g2 hb2
 cases B with
 | false =>
  have hfin : Hid (F = -1) := hidI (hno.out rfl)
  replace hB := hidI hB
  go_wp2
  go_ret
  exact ⟨ret_i hfin.out.symm, hbq.out⟩
 | true =>
  obtain ⟨h1, h2, h3⟩ := hyes.out rfl
  have hfin := hidI h1
  have hw : IntKind.i64.wrap ((n : Int) - s) = (n : Int) - s := IntWalk.i64_in _ ⟨by omega, by omega⟩
  have hw2 : IntKind.i64.wrap ((n : Int) - s + 1) = (n : Int) - s + 1 := IntWalk.i64_in _ ⟨by omega, by omega⟩
  replace hB := hidI hB
  clear h1
  go_wp2
  go_ret
  exact ⟨ret_i hfin.out.symm, hbq.out⟩
end Go.Proofs.YtpjlamnjiilgbaaGreat
namespace Go.Proofs.YtpjlamnjiilgbaaGreat
open Go.RowKit
set_option linter.unusedVariables false
set_option linter.unusedSimpArgs false
theorem isW_ranged {r : Int} {wd : List Int} (h : isW r wd = true) (hr : 1 ≤ r ∧ r ≤ 3) {i : Nat} (hi : i < wd.length) : wd.getD i 0 ≠ 0 ∧ -r ≤ wd.getD i 0 ∧ wd.getD i 0 ≤ r := by
 unfold isW at h
 rw [decide_eq_true_eq] at h
 have := h.1 i hi
 unfold okAt at this
 obtain ⟨h1, h2, h3, _⟩ := this
 have hn : ng r = -r := ng_of (by omega) (by omega)
 exact ⟨h1, by omega, by omega⟩
theorem pth_edge {r s u v : Int} {wd : List Int} (hw : isW r wd = true) (hr : 1 ≤ r ∧ r ≤ 3) (hu : 0 ≤ u ∧ u < s) (hv : 0 ≤ v ∧ v < s) {i : Nat} (hi : i < wd.length) :
 (0 ≤ (edP s u v wd i).1 ∧ (edP s u v wd i).1 < s + wd.length - 1) ∧ (0 ≤ (edP s u v wd i).2.2 ∧ (edP s u v wd i).2.2 < s + wd.length - 1) ∧ (1 ≤ (edP s u v wd i).2.1 ∧ (edP s u v wd i).2.1 ≤ r) := by
 have hl := isW_ranged hw hr hi
 have ha : 0 ≤ atP s u i ∧ atP s u i < s + wd.length - 1 := by unfold atP; split <;> omega
 have hn : 0 ≤ nxP s v wd.length i ∧ nxP s v wd.length i < s + wd.length - 1 := by unfold nxP; split <;> omega
 unfold edP eB
 split <;> simp only <;> omega
theorem pth_gr {r s u v : Int} {es : List Ed} {wd : List Int} (h : isGr r s es = true) : isGr r (pthS r s es u wd v) (pthE r s es u wd v) = true := by
 by_cases ht : tkP r s es u wd v = true
 · have hE : pthE r s es u wd v = putAll es (pathK s u v wd wd.length) := if_pos ht
   have hS : pthS r s es u wd v = s + wd.length - 1 := if_pos ht
   have hlen := pthE_length r s es u wd v
   obtain ⟨_, hu, hv, hw, h0, h40, h120, h24, hr1, hr3, hs1, hs40⟩ := tkP_yes ht
   obtain ⟨g1, g2⟩ := putAll_spec (pathK s u v wd wd.length) es (asc_of_gr h)
   refine gr_of_asc (by rw [hE]; exact g1) (fun e he => ?_) ⟨hr1, hr3⟩ (by rw [hS]; omega) (by omega)
   rw [hE, g2] at he
   rw [hS]
   rcases he with he | he
   · have := gr_edge h he
     omega
   · unfold pathK at he
     obtain ⟨i, hi, rfl⟩ := List.mem_map.1 he
     exact pth_edge hw ⟨hr1, hr3⟩ hu hv (List.mem_range.1 hi)
 · have hE : pthE r s es u wd v = es := if_neg ht
   have hS : pthS r s es u wd v = s := if_neg ht
   rw [hE, hS]
   exact h
theorem gr_one {r : Int} (hr : 1 ≤ r ∧ r ≤ 3) : isGr r 1 [] = true :=
 isGr_iff.2 ⟨fun i hi => by simp at hi, hr.1, hr.2, by omega, by omega, by simp⟩
theorem flo_gr {r : Int} (hr : 1 ≤ r ∧ r ≤ 3) (zss : List (List Int)) : isGr r (floL r zss).1 (floL r zss).2 = true := by
 have key : ∀ (zs : List (List Int)) (p : Int × List Ed), isGr r p.1 p.2 = true → isGr r (zs.foldl (floS r) p).1 (zs.foldl (floS r) p).2 = true := by
  intro zs
  induction zs with
  | nil => intro p h; exact h
  | cons z zs ih => intro p h; exact ih _ (pth_gr h)
 exact key zss (1, []) (gr_one hr)
theorem arew_rank {r : Int} {zss : List (List Int)} (h : arew r zss = true) : 1 ≤ r ∧ r ≤ 3 := by
 unfold arew at h
 rw [decide_eq_true_eq] at h
 exact ⟨h.2.1, h.2.2.1⟩
theorem flower_gr {r : Int} {zss : List (List Int)} (h : arew r zss = true) : isGr r (floZ r zss) (floE r zss) = true := by
 unfold floZ floE
 rw [if_pos h, if_pos h]
 exact flo_gr (arew_rank h) zss
theorem su_core {r : Int} {zss : List (List Int)} (h : arew r zss = true) : suR r zss = r ∧ isCo r (suS r zss) (suE r zss) = true := by
 obtain ⟨e1, e2, e3⟩ := su_yes h
 have hR : floR r zss = r := if_pos h
 rw [e1, e2, e3, hR]
 exact ⟨rfl, (cr_core (flower_gr h)).2.2⟩
theorem su_lim (r : Int) (zss : List (List Int)) : 0 ≤ suS r zss ∧ suS r zss ≤ 40 := by
 cases h : arew r zss with
 | false => rw [(su_no h).2.1]; omega
 | true => have := co_lim (su_core h).2; omega
def frB (r : Int) (zss : List (List Int)) : Bool := arew r zss && decide (rkN (suR r zss) (suS r zss) (suE r zss) = (zss.length : Int))
def geB (r s : Int) (es : List Ed) (zss : List (List Int)) : Bool := arew r zss && eqG (suR r zss) (suS r zss) (suE r zss) r s es
theorem geB_eq (r s : Int) (es : List Ed) (zss : List (List Int)) : geB r s es zss = (arew r zss && (isCo r s es && eqG r s es (suR r zss) (suS r zss) (suE r zss))) := by
 unfold geB
 cases h : arew r zss with
 | false => rfl
 | true =>
  rw [Bool.true_and, Bool.true_and]
  obtain ⟨h1, h2⟩ := su_core h
  rw [h1]
  unfold eqG
  by_cases e : s = suS r zss ∧ es = suE r zss
  · rw [← e.1, ← e.2] at h2 ⊢
    rw [h2]; simp
  · rw [decide_eq_false fun q => e ⟨q.2.1.symm, q.2.2.symm⟩, decide_eq_false (p := r = r ∧ s = suS r zss ∧ es = suE r zss) fun q => e ⟨q.2.1, q.2.2⟩, Bool.and_false]
end Go.Proofs.YtpjlamnjiilgbaaGreat
