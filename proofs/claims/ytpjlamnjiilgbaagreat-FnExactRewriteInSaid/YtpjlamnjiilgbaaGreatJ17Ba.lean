import Derived.WalkKit
import Derived.WalkLawsBesides
import Derived.WalkSpells
import Derived.ProofKit
import Derived.Outline
import Derived.RowKit
import Derived.Below
import Derived.Laws.BitsLemmas
import Derived.IntWalk
import Derived.Lib.Strings
import Derived.Laws.IdiomStrings
import Derived.Deep.RegionLaw
import Derived.Lib.OthersKept
import Derived.Deep.QuietTactic
import Derived.BigQuiet
import Derived.Maps.AppendAt
import Derived.Deep.LoopGhost
import Derived.Deep.Cut
import Derived.Deep.RegionHeld3
import Derived.Test.YtpjlamnjiilgbaaGreatRows
import Derived.Test.YtpjlamnjiilgbaaGreatJ4Ba
import Derived.Test.YtpjlamnjiilgbaaGreatJ0Ba
import Derived.Test.YtpjlamnjiilgbaaGreatJ9Ba
import Derived.Test.YtpjlamnjiilgbaaGreatJ7Ba
import Derived.Test.YtpjlamnjiilgbaaGreatJ5Ba
namespace Go.Proofs.YtpjlamnjiilgbaaGreat
open Go.RowKit
set_option linter.unusedVariables false
def bv (b : UInt8) : Value := .int .u8 (b.toNat : Int)
theorem conv_own {w : World} {base : Nat} {v : Value} {bs : List UInt8} (h : w.ownsRow base 5 1 v bs.length (bs.map bv)) :
 (convert 22 9 v).run Tryz.prog w = .ok (.string ⟨bs.toArray⟩) w := by
 have hcs : ∀ g, v.ownBlock = some g → _ := fun g hg => h.cells (g := g) hg
 obtain ⟨hlen, ⟨rfl, hn⟩ | ⟨g, cap, cur, rfl, hg, hh, hcap, hmax, hsz, htk⟩⟩ := h
 · have : bs = [] := List.length_eq_zero_iff.1 hn
   subst this
   rw [run_convert_bytes_string w 22 9 5 none 0 0 Tryz.underlying22 Tryz.underlying5 Tryz.underlying9]
   simp [Conv.bytesToString, Sem.run_pure]
   rfl
 · exact run_convert_bytes_back (P := Tryz.prog) w 22 9 5 ⟨g, 0, none⟩ cap bs Tryz.underlying22 Tryz.underlying5 Tryz.underlying9 (by
    intro j hj
    exact hcs g rfl j _ (by simp [hj, bv]))
def OwnsB (w : World) (base : Nat) (v : Value) (bs : List UInt8) : Prop := w.ownsRow base 5 1 v bs.length (bs.map bv)
theorem OwnsB.conv {w : World} {base : Nat} {v : Value} {bs : List UInt8} (h : OwnsB w base v bs) :
 (convert 22 9 v).run Tryz.prog w = .ok (.string ⟨bs.toArray⟩) w := conv_own h
theorem OwnsB.lit (w : World) : OwnsB (w.alloc (.cells #[] 5)) w.heap.size (.slice (some ⟨w.heap.size, 0, none⟩) 0 0) [] := World.ownsRow_lit w #[] 0 (Nat.le_refl _) (Nat.zero_le _) rfl
theorem OwnsB.drew {w : World} {base : Nat} {v : Value} {bs : List UInt8} (h : OwnsB w base v bs) : OwnsB w.drew base v bs := h
def CodeIn (B : Nat) (w : World) (a : Option Addr) (len : Nat) : Prop :=
 len ≤ 1048576 ∧ (len = 0 ∨ ∃ b off, a = some ⟨b, off, none⟩ ∧ b < B ∧ ∀ i, i < len → ∃ c : UInt8, w.cell? ⟨b, off + i, none⟩ = some (.int .u8 (c.toNat : Int)))
theorem CodeIn.below {B : Nat} {w w' : World} {a : Option Addr} {len : Nat} (h : CodeIn B w a len) (hb : Below B w w') : CodeIn B w' a len := by
 refine ⟨h.1, h.2.imp id ?_⟩
 rintro ⟨b, off, ha, hB, hc⟩
 refine ⟨b, off, ha, hB, fun i hi => ?_⟩
 obtain ⟨c, hcell⟩ := hc i hi
 exact ⟨c, by rw [hb.cell (p := ⟨b, off + i, none⟩) hB]; exact hcell⟩
def CurAt (B : Nat) (w : World) (g : Nat) (a : Option Addr) (len cap : Nat) : Prop :=
 B ≤ g ∧ ∃ (i : Nat) (h : Int), i ≤ len ∧ w.heap[g]? = some (.cells #[.slice a len cap, .int .i64 i, .int .i64 h] 87 (0, 0))
theorem CurAt.below {B : Nat} {w w' : World} {g : Nat} {a : Option Addr} {len cap : Nat} (h : CurAt B w g a len cap) (hg : w.grownBy w' (some g)) : Below B w w' := by
 obtain ⟨hB, i, hh, hi, hheap⟩ := h
 have hlt : g < w.heap.size := (Array.getElem?_eq_some_iff.1 hheap).1
 exact ⟨hg.os, hg.tape, hg.output, hg.size, fun k hk => hg.block k (by omega) (fun e => by cases e; omega)⟩
theorem CurAt.lt {B : Nat} {w : World} {g : Nat} {a : Option Addr} {len cap : Nat} (h : CurAt B w g a len cap) : g < w.heap.size := by
 obtain ⟨_, i, hh, _, hheap⟩ := h
 exact (Array.getElem?_eq_some_iff.1 hheap).1
theorem CurAt.alloc {B : Nat} {w : World} {g : Nat} {a : Option Addr} {len cap : Nat} (h : CurAt B w g a len cap) (o : Obj) : CurAt B (w.alloc o) g a len cap := by
 have hlt := h.lt
 obtain ⟨hB, i, hh, hi, hheap⟩ := h
 exact ⟨hB, i, hh, hi, by rw [Below.heap_alloc _ _ _ hlt]; exact hheap⟩
theorem CurAt.over {B base : Nat} {w w' : World} {g : Nat} {a : Option Addr} {len cap : Nat} (h : CurAt B w g a len cap) (hg : g < base) (hb : Below base w w') : CurAt B w' g a len cap := by
 obtain ⟨hB, i, hh, hi, hheap⟩ := h
 exact ⟨hB, i, hh, hi, by rw [hb.block g hg]; exact hheap⟩
end Go.Proofs.YtpjlamnjiilgbaaGreat
namespace Go.Proofs.YtpjlamnjiilgbaaGreat
open Go.RowKit
set_option linter.unusedVariables false
set_option maxHeartbeats 800000 in
theorem specMul (w : World) (v1 v2 : Value) (z1 z2 : List Int) (h1 : ReadI w.heap.size w v1 z1) (h2 : ReadI w.heap.size w v2 z2) (hl1 : z1.length ≤ 40000000) (hl2 : z2.length ≤ 40000000) :
 Calls Tryz.prog 83 #[v1, v2] w (IntsRet w (mulL z1 z2)) := by
 have hr1 := hidI h1
 have hr2 := hidI h2
 clear h1 h2
 have hb0 : Below w.heap.size w (w.alloc (.cells #[] 3)) := (Below.refl _ _).alloc (Nat.le_refl _) _
 have hlit := hidI (OwnsI.lit w)
 have hs0 : ([] : List Int).length + z1.length ≤ 1000000000 := by simp; omega
 go_enter Tryz.func83, Tryz.ntmps83
 go_wp2_with (at_builtin; go_must (refine wpList_pushAllI rfl (.tmp 5) (.tmp 6) rfl w.heap.size _ _ [] z1 w.heap.size rfl rfl (by exact hlit.out) (by exact hr1.out.below hb0) hs0 hb0.size ?_))
 intro v3 w3 hown3 hb3'
 have hb3 := hb0.trans hb3'
 have hown3' : OwnsI w3 w.heap.size v3 z1 := hown3
 have hs3 : z1.length + z2.length ≤ 1000000000 := by omega
 replace hown3' := hidI hown3'
 clear hown3 hb3' hlit
 go_wp2_with (at_builtin; go_must (refine wpList_pushAllI rfl _ _ rfl w.heap.size _ _ z1 z2 w.heap.size rfl rfl (by exact hown3'.out) (by exact hr2.out.below hb3) hs3 hb3.size ?_))
 intro v4 w4 hown4 hb4'
 have hb4 := hb3.trans hb4'
 have hz : (z1 ++ z2).length ≤ 100000000 := by rw [List.length_append]; omega
 have hrd : ReadI w4.heap.size w4 v4 (z1 ++ z2) := (hown4.row (by omega)).read
 have hs4 := hb4.size
 clear hown4 hb4' hown3' hb3 hb0
 go_wp2_with fail
 refine (specRed w4 v4 (z1 ++ z2) hrd hz).mono ?_
 rintro e w5 ⟨v5, rfl, hrow, hb5'⟩
 have hb5 := hb4.trans (hb5'.mono hs4)
 have hrow2 := hidI (hrow.wide hs4 (Nat.le_refl _))
 clear hrow hb5' hrd
 go_wp2_with fail
 go_ret
 exact ⟨v5, rfl, hrow2.out, hb5⟩
theorem RowI.later {w w' : World} {lo hi : Nat} {v : Value} {zs : List Int} (h : RowI w lo hi v zs) (hb : Below hi w w') (hs : hi ≤ w'.heap.size) : ReadI w'.heap.size w' v zs :=
 ((h.read).below hb).mono hs
theorem OwnsI.later {w w' : World} {base B : Nat} {v : Value} {zs : List Int} (h : OwnsI w base v zs) (hb : Below B w w') (hB : w.heap.size ≤ B) : OwnsI w' base v zs := by
 obtain ⟨hl, h1 | ⟨g, cap, cur, hv, hg, hh, hr⟩⟩ := h
 · exact ⟨hl, .inl h1⟩
 · have hlt : g < w.heap.size := (Array.getElem?_eq_some_iff.1 hh).1
   exact ⟨hl, .inr ⟨g, cap, cur, hv, hg, by rw [hb.block g (by omega)]; exact hh, hr⟩⟩
def okAt (rank : Int) (zs : List Int) (i : Nat) : Prop :=
 zs.getD i 0 ≠ 0 ∧ ng rank ≤ zs.getD i 0 ∧ zs.getD i 0 ≤ rank ∧ (0 < i → zs.getD i 0 ≠ ng (zs.getD (i - 1) 0))
instance (rank : Int) (zs : List Int) (i : Nat) : Decidable (okAt rank zs i) := by unfold okAt; infer_instance
end Go.Proofs.YtpjlamnjiilgbaaGreat
namespace Go.Proofs.YtpjlamnjiilgbaaGreat
open Go.RowKit
set_option linter.unusedVariables false
set_option linter.unusedSimpArgs false
theorem letsN_ne0 : ∀ k, ∀ l ∈ letsN k, l ≠ 0 := by
 intro k
 induction k with
 | zero => intro l h; cases h
 | succ k ih =>
  intro l h
  rw [letsN, List.mem_append] at h
  rcases h with h | h
  · exact ih l h
  · simp at h; omega
def OutAt (w : World) (b0 : Nat) (o ov : Value) (E : List Ed) : Prop :=
 ∃ lo hi, b0 ≤ lo ∧ hi ≤ w.heap.size ∧ RowS 72 3 w lo hi ov E.length (flatE E) ∧ (∀ k, o.ownBlock = some k → k < lo ∨ hi ≤ k)
theorem OutAt.below {w w' : World} {b0 : Nat} {o ov : Value} {E : List Ed} (h : OutAt w b0 o ov E) (hb : Below w.heap.size w w') : OutAt w' b0 o ov E := by
 obtain ⟨lo, hi, h1, h2, h3, h4⟩ := h
 exact ⟨lo, hi, h1, Nat.le_trans h2 hb.size, h3.below hb h2, h4⟩
theorem OutAt.push {w w' : World} {b0 : Nat} {o o' ov : Value} {E : List Ed} {z : Int} (h : OutAt w b0 o ov E)
 (hg : (w.alloc (.cells #[.int .i64 z] 3)).grownBy w' o.ownBlock) (hv : o'.ownBlock = o.ownBlock ∨ o'.ownBlock = some (w.heap.size + 1)) : OutAt w' b0 o' ov E := by
 obtain ⟨lo, hi, h1, h2, h3, h4⟩ := h
 have hsz := hg.size
 have hb := (Below.refl w.heap.size w).alloc (Nat.le_refl _) (.cells #[.int .i64 z] 3)
 refine ⟨lo, hi, h1, by simp at hsz; omega, h3.keep (fun k q1 q2 => ?_), fun k hk => ?_⟩
 · rw [hg.block k (by simp; omega) (fun e => by rcases h4 k e.symm with q | q <;> omega)]
   exact hb.block k (by omega)
 · rcases hv with e | e
   · exact h4 k (e ▸ hk)
   · rw [e] at hk; right; have : w.heap.size + 1 = k := by simpa using hk
     omega
def TrI (w : World) (base b0 lo hi : Nat) (o ov : Value) (S : List Ar) (lv : Value) (ls : List Int) : Prop :=
 CoSt w base lo hi o (vts S) lv ls ∧ OutAt w b0 o ov (putAll [] (trA S))
theorem TrI.below {w w' : World} {base b0 lo hi : Nat} {o ov : Value} {S : List Ar} {lv : Value} {ls : List Int} (h : TrI w base b0 lo hi o ov S lv ls) (hb : Below w.heap.size w w') : TrI w' base b0 lo hi o ov S lv ls := ⟨h.1.below hb, h.2.below hb⟩
theorem vts_length (S : List Ar) : (vts S).length = S.length := by simp [vts]
theorem vts_get {S : List Ar} {j : Nat} (h : j < S.length) : (vts S).getD j 0 = (S.getD j d0).1.1 := by
 rw [List.getD_eq_getElem?_getD, List.getElem?_eq_getElem (by rw [vts_length]; exact h), ← vts_el h]; rfl
theorem foldl_left {es : List Ed} {k : Nat} : ∀ (ls : List Int) {S : List Ar} {j : Nat}, j < S.length → (ls.foldl (arr1 es k) S).getD j d0 = S.getD j d0 ∧ j < (ls.foldl (arr1 es k) S).length := by
 intro ls
 induction ls with
 | nil => intro S j h; exact ⟨rfl, h⟩
 | cons l ls ih =>
  intro S j h
  have h1 : (arr1 es k S l).getD j d0 = S.getD j d0 := by
   unfold arr1; split
   · exact getD_left h
   · rfl
  have h2 := ih (S := arr1 es k S l) (j := j) (Nat.lt_of_lt_of_le h (arr1_le es k S l))
  exact ⟨h2.1.trans h1, h2.2⟩
theorem arr1_no2 {es : List Ed} {i : Nat} {S : List Ar} {l y : Int} (hy : y = nxV es (S.getD i d0).1.1 l) (h : y < 0 ∨ y ∈ vts S) : arr1 es i S l = S := by
 unfold arr1; rw [← hy, if_neg]
 rintro ⟨h0, hn⟩
 rcases h with h | h
 · omega
 · exact hn h
theorem arr1_yes2 {es : List Ed} {i : Nat} {S : List Ar} {l y : Int} (hy : y = nxV es (S.getD i d0).1.1 l) (h0 : 0 ≤ y) (hn : y ∉ vts S) : arr1 es i S l = S ++ [((y, l, (i : Int)), (S.getD i d0).2 ++ [l])] := by
 unfold arr1; rw [← hy, if_pos ⟨h0, hn⟩]
theorem vts_snoc (S : List Ar) (x : Ar) : vts (S ++ [x]) = vts S ++ [x.1.1] := by simp [vts]
theorem fold_next {es : List Ed} {k j : Nat} {ls : List Int} {S0 : List Ar} (h : j < ls.length) : (ls.take (j + 1)).foldl (arr1 es k) S0 = arr1 es k ((ls.take j).foldl (arr1 es k) S0) (ls.getD j 0) := by
 rw [List.take_add_one, List.getElem?_eq_getElem h, Option.toList_some, List.foldl_append, List.getD_eq_getElem?_getD, List.getElem?_eq_getElem h]
 rfl
theorem TrI.edge {w w' : World} {base b0 lo hi : Nat} {o ov a : Value} {Z : List Int} {E E' : List Ed} {lv : Value} {ls : List Int} (h : CoSt w base lo hi o Z lv ls) (hb : Below w.heap.size w w')
 (hr : RowS 72 3 w' w.heap.size w'.heap.size a E'.length (flatE E')) (hB : b0 ≤ w.heap.size) : CoSt w' base lo hi o Z lv ls ∧ OutAt w' b0 o a E' :=
 ⟨h.below hb, w.heap.size, w'.heap.size, hB, Nat.le_refl _, hr, fun k hk => .inl (World.ownsRow.lt h.1 k hk).2⟩
set_option maxRecDepth 100000 in
set_option maxHeartbeats 3200000 in
theorem specTreeL (w : World) (r s : Int) (v : Value) (es : List Ed) (h : ReadE w.heap.size w v es) (hs : -9223372036854775808 ≤ s ∧ s ≤ 9223372036854775807) (hl : es.length ≤ 10000000) :
 Calls Tryz.prog 82 #[.agg #[.int .i64 r, .int .i64 s, v]] w (LwEdges w (trE r s es)) := by
 obtain ⟨a, cap, rfl, hnc⟩ := h.form
 obtain ⟨n, hn⟩ := exq es.length
 rw [← hn] at hl hnc ⊢
 rw [← hn] at h
 obtain ⟨wz, hwz⟩ := exq (w.alloc (.cells #[.int .i64 r, .int .i64 s, .slice a n cap] 26))
 have hbz : Below w.heap.size w wz := by rw [hwz]; exact (Below.refl _ _).alloc (Nat.le_refl _) _
 have hsz : wz.heap.size = w.heap.size + 1 := by rw [hwz]; simp
 obtain ⟨g0, g1, g2⟩ := box3 hwz
 obtain ⟨w1, hw1⟩ := exq (wz.alloc (.cells #[] 72))
 have hbz1 : Below wz.heap.size wz w1 := by rw [hw1]; exact (Below.refl _ _).alloc (Nat.le_refl _) _
 have hs11 : w1.heap.size = wz.heap.size + 1 := by rw [hw1]; simp
 have hown1 : OwnsE w1 wz.heap.size (.slice (some ⟨wz.heap.size, 0, none⟩) 0 0) [] := by rw [hw1]; exact OwnsE.litE wz
 have hb1 : Below w.heap.size w w1 := hbz.trans (hbz1.mono (by omega))
 have hs1 : w.heap.size < w1.heap.size := by omega
 replace g0 := below_cell g0 hbz1 (by omega)
 replace g1 := below_cell g1 hbz1 (by omega)
 replace g2 := below_cell g2 hbz1 (by omega)
 rw [hsz] at hown1
 have hcf := specFold w1 r s (.slice a n cap) es ((h.below hb1).mono hb1.size) hs (by omega)
 obtain ⟨B, hB⟩ := exq (isFo r s es)
 rw [← hB] at hcf
 obtain ⟨F, hF⟩ := exq (trE r s es)
 rw [← hF]
 have hFl : F.length ≤ 39 := by rw [hF]; exact trE_length r s es
 have hno : B = false → F = [] := fun hb => by rw [hF, trE, ← hB, hb, if_neg (by decide)]
 have hyes : B = true → F = putAll [] (trA (arrN es (letsN r.toNat) 0 41)) := fun hb => by rw [hF, trE, ← hB, hb, if_pos rfl]; rfl
 have hnext := fun (W : World) (x y : Int) (hr : ReadE W.heap.size W (.slice a n cap) es) => specNext W r s (.slice a n cap) es x y hr (by omega)
 have hw1' : w1 = (w.alloc (.cells #[.int .i64 r, .int .i64 s, .slice a n cap] 26)).alloc (.cells #[] 72) := by rw [hw1, hwz]
 have hw1s := hidI hw1'.symm
 replace hw1' := hidI hw1'
 replace hnext := hidI hnext
 replace hno := hidI hno
 replace hyes := hidI hyes
 replace hF := hidI hF
 replace hn := hidI hn
 replace hw1 := hidI hw1
 replace hwz := hidI hwz
 replace h := hidI h
 replace hown1 := hidI hown1
 replace hsz := hidI hsz
 replace hs11 := hidI hs11
 clear hbz hbz1
 go_enter Tryz.func82, Tryz.ntmps82
 go_upto_region 2 with fail
 rw [hw1s.out]
 go_wp2_with fail
 refine hcf.mono ?_
 rintro e w2 ⟨rfl, hb2⟩
 clear hcf
 replace g0 := below_cell g0 hb2 hs1
 replace g1 := below_cell g1 hb2 hs1
 replace g2 := below_cell g2 hb2 hs1
 have hb12 := hidI (hb1.trans (hb2.mono hb1.size))
 have hs2 : w.heap.size < w2.heap.size := Nat.lt_of_lt_of_le hs1 hb2.size
 have hown2 := hidI (show OwnsE w2 (w.heap.size + 1) (.slice (some ⟨w.heap.size + 1, 0, none⟩) 0 0) [] from OwnsS.later hown1.out hb2 (Nat.le_refl _))
 clear hb2 hown1
 cases B with
 | false =>
  have hfin : Hid (LwEdges w F (.returned (.slice (some ⟨w.heap.size + 1, 0, none⟩) 0 0)) w2) := by
   rw [hno.out rfl]
   exact hidI (lwEdges_owns hown2.out hb12.out (by omega) (by simp))
  replace hB := hidI hB
  replace hno := hidI hno
  replace hyes := hidI hyes
  go_wp2
  go_ret
  exact hfin.out
 | true =>
  have hfo := hB.symm
  have hlim := fo_lim hfo
  obtain ⟨rN, rfl⟩ : ∃ rN : Nat, r = (rN : Int) := ⟨r.toNat, by omega⟩
  obtain ⟨sN, rfl⟩ : ∃ sN : Nat, s = (sN : Int) := ⟨s.toNat, by omega⟩
  rw [Int.toNat_natCast] at hyes
  obtain ⟨ls, hls⟩ := exq (letsN rN)
  have hlet := fun W => specLets W rN (by omega)
  rw [← hls] at hlet hyes
  have hln : ls.length ≤ 6 := by rw [hls, letsN_length]; omega
  have hLin : ∀ l ∈ ls, -3 ≤ l ∧ l ≤ 3 := fun l hl => by rw [hls] at hl; have := letsN_in rN l hl; omega
  have hLne : ∀ l ∈ ls, l ≠ 0 := fun l hl => by rw [hls] at hl; exact letsN_ne0 rN l hl
  have hN := nx_lt hfo
  have hN' : ∀ v l : Int, -3 ≤ l ∧ l ≤ 3 → 0 ≤ nxV es v l → nxV es v l < (sN : Int) := fun v l h h0 => by have := hN v l h h0; omega
  have hgood : ∀ k, GoodA sN 0 (arrN es ls 0 k) := good_arrN (by omega) hLin hN'
  have hF40 := hidI (hyes.out rfl)
  obtain ⟨w3, hw3⟩ := exq (w2.alloc (.cells #[.int .i64 0] 3))
  have hb3 : Below w2.heap.size w2 w3 := by rw [hw3]; exact (Below.refl _ _).alloc (Nat.le_refl _) _
  have hown3 : OwnsI w3 w2.heap.size (.slice (some ⟨w2.heap.size, 0, none⟩) 1 1) [0] := by rw [hw3]; exact World.ownsRow_lit w2 #[.int .i64 0] 1 (by omega) (by unfold maxLen; omega) rfl
  replace g0 := below_cell g0 hb3 hs2
  replace g1 := below_cell g1 hb3 hs2
  replace g2 := below_cell g2 hb3 hs2
  have hs3 : w2.heap.size < w3.heap.size := by rw [hw3]; simp
  have hb13 := hidI (hb12.out.trans (hb3.mono hb12.out.size))
  have hownE3 : OwnsE w3 (w.heap.size + 1) (.slice (some ⟨w.heap.size + 1, 0, none⟩) 0 0) [] := OwnsS.later hown2.out hb3 (Nat.le_refl _)
  have hEl := World.ownsRow.lt hown2.out
  have hw3' := hw3.symm
  replace hw3' := hidI hw3'
  replace hw3 := hidI hw3
  replace hlim := hidI hlim
  replace hgood := hidI hgood
  replace hLin := hidI hLin
  replace hLne := hidI hLne
  replace hN := hidI hN
  replace hN' := hidI hN'
  replace hfo := hidI hfo
  replace hB := hidI hB
  replace hls := hidI hls
  replace hno := hidI hno
  replace hyes := hidI hyes
  replace hown3 := hidI hown3
  replace hownE3 := hidI hownE3
  replace hEl := hidI hEl
  clear hb3 hown2
  have hlw := hlet w3
  go_upto_region 5 with fail
  rw [hw3'.out]
  go_wp2_with fail
  refine hlw.mono ?_
  rintro e w4 ⟨lv, rfl, hlr, hb4⟩
  clear hlw
  replace hlet := hidI hlet
  replace g0 := below_cell g0 hb4 (by omega)
  replace g1 := below_cell g1 hb4 (by omega)
  replace g2 := below_cell g2 hb4 (by omega)
  have hs4 := hb4.size
  have hb14 := hidI (hb13.out.trans (hb4.mono hb13.out.size))
  have hown4 : Hid (OwnsI w4 w2.heap.size (.slice (some ⟨w2.heap.size, 0, none⟩) 1 1) (vts (arrN es ls 0 0))) := hidI (ownI_other hown3.out (fun k hk => hb4.block k (World.ownsRow.lt hown3.out k hk).2))
  have hownE4 : OwnsE w4 (w.heap.size + 1) (.slice (some ⟨w.heap.size + 1, 0, none⟩) 0 0) [] := OwnsS.later hownE3.out hb4 (Nat.le_refl _)
  have hout4 : Hid (OutAt w4 w.heap.size (.slice (some ⟨w2.heap.size, 0, none⟩) 1 1) (.slice (some ⟨w.heap.size + 1, 0, none⟩) 0 0) (putAll [] (trA (arrN es ls 0 0)))) := hidI (by
   refine ⟨w.heap.size + 1, w2.heap.size, by omega, by omega, ?_, fun k hk => ?_⟩
   · obtain ⟨q1, q2, q3⟩ := OwnsS.row hownE4 (by simp)
     refine ⟨q1, q2, q3.imp id ?_⟩
     rintro ⟨g, off, cap, cur, hv, hlo, hhi, rest⟩
     refine ⟨g, off, cap, cur, hv, hlo, ?_, rest⟩
     have := (hEl.out (w.heap.size + 1) rfl).2
     cases hv; exact this
   · right; have : w2.heap.size = k := by simpa [Value.ownBlock] using hk
     omega)
  obtain ⟨al, ml, cl, rfl⟩ : ∃ a m c, lv = Value.slice a m c := by
   obtain ⟨_, ⟨h1, _⟩ | ⟨g, off, cap, cur, h1, _⟩⟩ := hlr <;> exact ⟨_, _, _, h1⟩
  have hml : ml = ls.length := by
   obtain ⟨_, ⟨h1, h2⟩ | ⟨g, off, cap, cur, h1, _⟩⟩ := hlr
   · cases h1; rw [h2]; rfl
   · cases h1; rfl
  obtain ⟨lo, hlo⟩ := exq w3.heap.size
  obtain ⟨hi, hhi⟩ := exq w4.heap.size
  rw [← hlo, ← hhi] at hlr
  have hst0 : Hid (TrI w4 w2.heap.size w.heap.size lo hi (.slice (some ⟨w2.heap.size, 0, none⟩) 1 1) (.slice (some ⟨w.heap.size + 1, 0, none⟩) 0 0) (arrN es ls 0 0) (.slice al ml cl) ls) := hidI ⟨⟨hown4.out, hlr, by omega, fun k hk => by
   have : w2.heap.size = k := by simpa [Value.ownBlock] using hk
   left; omega⟩, hout4.out⟩
  have hbw := hidI (Below.refl w2.heap.size w4)
  have hs24 : w2.heap.size ≤ w4.heap.size := by omega
  have hml6 : ml ≤ 6 := by omega
  replace hml := hidI hml
  replace hlo := hidI hlo
  replace hhi := hidI hhi
  clear hb4 hlr hown3 hown4 hownE4 hownE3 hout4 hEl
  go_wp2
  go_loopg [3, 4, 6, 7, 8] 41 (fun g ov_ o iv_ kv_ xv_ wr => ∃ i : Nat, i + g = 41 ∧ iv_ = .int .i64 i ∧ Hid (TrI wr w2.heap.size w.heap.size lo hi o ov_ (arrN es ls 0 i) (.slice al ml cl) ls) ∧ Hid (Below w2.heap.size w4 wr) ∧ w2.heap.size ≤ wr.heap.size)
  case atStart => exact ⟨0, rfl, rfl, hst0, hbw, hs24⟩
  case round =>
   clear hst0 hbw hs24
   obtain ⟨i, hi41, rfl, hst, hb, hsw⟩ := hrel
   obtain ⟨S0, hS0⟩ := exq (arrN es ls 0 i)
   have hgi := hgood.out i
   rw [← hS0] at hst hgi
   have hOl := hgi.length
   obtain ⟨p, hp⟩ := exq S0.length
   have hp40 : p ≤ 40 := by have := hlim.out; omega
   obtain ⟨og, oc, hov⟩ : ∃ g c, u4 = Value.slice g p c := by
    rw [hp, ← vts_length]
    obtain ⟨h1, h2 | ⟨g, cap, cur, e, _⟩⟩ := hst.out.1.1
    · exact ⟨none, 0, by rw [h2.1, h2.2]⟩
    · exact ⟨_, _, e⟩
   subst hov
   by_cases hlt : i < p
   · have hii : (i : Int) < (p : Int) := by omega
     obtain ⟨u, hu⟩ := exq ((S0.getD i d0).1.1)
     have hnxR : Hid (arrN es ls 0 (i + 1) = (ls.take ls.length).foldl (arr1 es i) S0) := hidI (by rw [arrN, ← hS0, if_pos (by omega), List.take_length])
     have hst1 : Hid (TrI wr w2.heap.size w.heap.size lo hi (.slice og p oc) u3 ((ls.take 0).foldl (arr1 es i) S0) (.slice al ml cl) ls) := hst
     have hat := fun k => foldl_left (es := es) (k := i) (ls.take k) (show i < S0.length by omega)
     have hgj : ∀ k, GoodA sN 0 ((ls.take k).foldl (arr1 es i) S0) := fun k => good_foldl _ hgi (by omega) (fun l hl => hLin.out l (List.mem_of_mem_take hl)) hN'.out
     replace hat := hidI hat
     replace hgj := hidI hgj
     replace hgi := hidI hgi
     replace hS0 := hidI hS0
     replace hu := hidI hu
     replace hp := hidI hp
     replace hi41 := hidI hi41
     clear hst
     go_wp2
     go_loopg [3, 4, 7, 8] ml (fun g ov_ o kv_ xv_ wr => ∃ k : Nat, k + g = ml ∧ kv_ = .int .i64 k ∧ Hid (TrI wr w2.heap.size w.heap.size lo hi o ov_ ((ls.take k).foldl (arr1 es i) S0) (.slice al ml cl) ls) ∧ Hid (Below w2.heap.size w4 wr) ∧ w2.heap.size ≤ wr.heap.size)
     case atStart => exact ⟨0, by omega, rfl, hst1, hb, hsw⟩
     case round =>
      clear hst1 hb hsw
      obtain ⟨k, hk, rfl, hst, hb, hsw⟩ := hrel
      obtain ⟨S, hS⟩ := exq ((ls.take k).foldl (arr1 es i) S0)
      have hgS := hgj.out k
      have hLa := hat.out k
      rw [← hS] at hLa hst hgS
      have hLl := hgS.length
      obtain ⟨q, hq⟩ := exq S.length
      have hq40 : q ≤ 40 := by have := hlim.out; omega
      have hiq : i < q := by omega
      have hSl40 : S.length ≤ 40 := by omega
      obtain ⟨og, oc, hov⟩ : ∃ g c, u4 = Value.slice g q c := by
       rw [hq, ← vts_length]
       obtain ⟨h1, h2 | ⟨g, cap, cur, e, _⟩⟩ := hst.out.1.1
       · exact ⟨none, 0, by rw [h2.1, h2.2]⟩
       · exact ⟨_, _, e⟩
      subst hov
      by_cases hlt2 : k < ml
      · have hki : (k : Int) < (ml : Int) := by omega
        have hii : (i : Int) < (q : Int) := by omega
        have hrw := (hst.out.1.1.row (by rw [vts_length]; omega)).read
        obtain ⟨ob, ooff, hob, hobB, c3⟩ := hrw.at2 i (by rw [vts_length]; omega)
        subst hob
        have hlrd := hst.out.1.2.1.read
        obtain ⟨lb, loff, hlb, hlB, c4⟩ := hlrd.at2 k (by have := hml.out; omega)
        subst hlb
        have hhiw := hst.out.1.2.2.1
        rw [vts_get (by omega), hLa.1, ← hu.out] at c3
        obtain ⟨z, hz⟩ := exq (ls.getD k 0)
        have hzm : z ∈ ls := by
         have hkl : k < ls.length := by have := hml.out; omega
         rw [hz, List.getD_eq_getElem?_getD, List.getElem?_eq_getElem hkl]; exact List.getElem_mem hkl
        have hzi := hLin.out z hzm
        have hzn := hLne.out z hzm
        rw [← hz] at c4
        have q0 := below_cell g0 hb.out hs2
        have q1 := below_cell g1 hb.out hs2
        have q2 := below_cell g2 hb.out hs2
        obtain ⟨wd, hwd⟩ := exq wr.drew
        have hbd : Below wr.heap.size wr wd := by rw [hwd]; exact below_dn (Below.refl _ _) 1
        have hws : w.heap.size < wr.heap.size := by omega
        replace q0 := below_cell q0 hbd hws
        replace q1 := below_cell q1 hbd hws
        replace q2 := below_cell q2 hbd hws
        replace c3 := below_cell c3 hbd hobB
        replace c4 := below_cell c4 hbd (by omega)
        have hstd : Hid (TrI wd w2.heap.size w.heap.size lo hi (.slice (some ⟨ob, ooff, none⟩) q oc) u3 S (.slice (some ⟨lb, loff, none⟩) ml cl) ls) := hidI (hst.out.below hbd)
        have hbwd : Below w2.heap.size w4 wd := hb.out.trans (hbd.mono hsw)
        have hbwd0 := hb14.out.trans (hbwd.mono (by omega))
        have hcall := hnext.out wd u z ((h.out.below hbwd0).mono hbwd0.size)
        obtain ⟨y, hy⟩ := exq (nxV es u z)
        rw [← hy] at hcall
        have hy' : y = nxV es (S.getD i d0).1.1 z := by rw [hLa.1, ← hu.out]; exact hy
        have hSn : (ls.take (k + 1)).foldl (arr1 es i) S0 = arr1 es i S z := by rw [fold_next (by have := hml.out; omega), ← hS, ← hz]
        have hsd := hbd.size
        have huS : (S.getD i d0).1.1 = u := by rw [hLa.1, hu.out]
        replace huS := hidI huS
        replace hSn := hidI hSn
        replace hy := hidI hy
        replace hy' := hidI hy'
        replace hz := hidI hz
        replace hS := hidI hS
        replace hgS := hidI hgS
        replace hq := hidI hq
        replace hk := hidI hk
        replace hwd := hidI hwd
        replace hbwd := hidI hbwd
        replace hLa := hidI hLa
        clear hst hb hrw hlrd hbd
        go_wp2
        refine hideQ (fun _ _ d _ _ h => by cases d <;> exact h) (fun Q' hnorm hpan => ?_)
        refine wp_region_held_drew (S := (fun W0 => W0.cell? ⟨w.heap.size, 0, none⟩ = some (.int .i64 (rN : Int)) ∧ W0.cell? ⟨w.heap.size, 1, none⟩ = some (.int .i64 (sN : Int)) ∧ W0.cell? ⟨w.heap.size, 2, none⟩ = some (.slice a n cap) ∧ W0.cell? ⟨ob, ooff + i, none⟩ = some (.int .i64 u) ∧ W0.cell? ⟨lb, loff + k, none⟩ = some (.int .i64 z))) (by kernel_rfl) ?_ (fun hHeld => ?_)
        · try dsimp only
          (try rw [← hwd.out]); ((repeat' apply And.intro) <;> with_reducible assumption)
        rw [← hwd.out] at hHeld ⊢
        refine tk 0 30 ?_
        refine tk 1 31 ?_
        refine tk 2 32 ?_
        refine tk 3 33 ?_
        refine tk 4 34 ?_
        refine tk 5 35 ?_
        refine tk 6 36 ?_
        refine tk 7 37 ?_
        refine tk 8 38 ?_
        refine rd 9 (fun K hK => ?_)
        rw [if_pos (by rfl)]
        go_simp
        refine hcall.mono ?_
        rintro e w5 ⟨rfl, hb5⟩
        have x0 := below_cell q0 hb5 (by omega)
        have x1 := below_cell q1 hb5 (by omega)
        have x2 := below_cell q2 hb5 (by omega)
        have x3 := below_cell c3 hb5 (by omega)
        have x4 := below_cell c4 hb5 (by omega)
        refine hK.out _ _ ?_ (fun hHeld => ?_)
        · try dsimp only
          (try rw [← hwd.out]); ((repeat' apply And.intro) <;> with_reducible assumption)
        clear hK
        try simp only [Act.put, lyA, lyB, lyC]
        refine tk 10 8 ?_
        refine wpAnyH_done (by kernel_rfl) ?_ _
        refine hnorm _ _ ?_
        clear hnorm hpan
        repeat clear hHeld
        try simp only [Exit.then]
        have hst5 := hidI (hstd.out.below hb5)
        have hb45 := hidI (hbwd.out.trans (hb5.mono (by omega)))
        have hs5 : w2.heap.size ≤ w5.heap.size := by have := hb5.size; omega
        have hhas := hasL_any w5 w5.heap.size (.slice (some ⟨ob, ooff, none⟩) q oc) (vts S) y (hst5.out.1.1.row (by rw [vts_length]; omega)).read (by rw [vts_length]; omega)
        clear hb5 q0 q1 q2 c3 c4 x0 x1 x2 x3 x4 hstd hbwd
        by_cases hy0 : y < 0
        · have hst6 : Hid (TrI w5 w2.heap.size w.heap.size lo hi (.slice (some ⟨ob, ooff, none⟩) q oc) u3 ((ls.take (k + 1)).foldl (arr1 es i) S0) (.slice (some ⟨lb, loff, none⟩) ml cl) ls) := hidI (by
           rw [hSn.out, arr1_no2 hy'.out (.inl hy0)]; exact hst5.out)
          clear hhas
          go_wp2
          go_roundg (ml - (k + 1))
          case rel => exact ⟨k + 1, by have := hk.out; omega, by go_num, hst6, hb45, hs5⟩
          case measure => have := hk.out; omega
        · by_cases hm : y ∈ vts S
          · have hst6 : Hid (TrI w5 w2.heap.size w.heap.size lo hi (.slice (some ⟨ob, ooff, none⟩) q oc) u3 ((ls.take (k + 1)).foldl (arr1 es i) S0) (.slice (some ⟨lb, loff, none⟩) ml cl) ls) := hidI (by
             rw [hSn.out, arr1_no2 hy'.out (.inr hm)]; exact hst5.out)
            rw [show decide (y ∈ vts S) = true from decide_eq_true hm] at hhas
            replace hm := hidI hm
            go_wp2_with fail
            refine hhas.mono ?_
            rintro e w7 ⟨rfl, hw7⟩
            replace hw7 := hw7.symm
            subst hw7
            clear hhas
            go_wp2
            go_roundg (ml - (k + 1))
            case rel => exact ⟨k + 1, by have := hk.out; omega, by go_num, hst6, hb45, hs5⟩
            case measure => have := hk.out; omega
          · rw [show decide (y ∈ vts S) = false from decide_eq_false hm] at hhas
            have harr := hidI (arr1_yes2 hy'.out (by omega) hm)
            have htrA := hidI (trA_snoc hgS.out (show i < S.length by have := hq.out; omega) y z ((S.getD i d0).2 ++ [z]))
            have hown5 := hst5.out.1.1
            have hgSl : (vts S).length ≤ 1000 := by rw [vts_length]; have := hq.out; omega
            have hvq : (vts S).length = q := by rw [vts_length]; exact hq.out.symm
            replace hvq := hidI hvq
            replace hm := hidI hm
            go_wp2_with fail
            refine hhas.mono ?_
            rintro e w7 ⟨rfl, hw7⟩
            replace hw7 := hw7.symm
            subst hw7
            clear hhas
            go_upto_region 14 with fail
            go_wp2_with (at_builtin; go_must (refine wpList_pushI_by rfl _ _ rfl w2.heap.size (.slice (some ⟨ob, ooff, none⟩) q oc) (vts S) _ rfl rfl hown5 (by omega) hs5 ?_))
            intro v6 w6 hown6 hg6 hloc6
            have hco6 : CoSt w6 w2.heap.size lo hi v6 (vts S ++ [y]) (.slice (some ⟨lb, loff, none⟩) ml cl) ls := hst5.out.1.push hown6 hg6 hloc6
            have hou6 : OutAt w6 w.heap.size v6 u3 (putAll [] (trA S)) := hst5.out.2.push hg6 hloc6
            have hbn : Below w2.heap.size w5 w6 := ((Below.refl w2.heap.size w5).alloc hs5 _).grown hg6 (by simp; omega) (fun k hk => (World.ownsRow.lt hown5 k hk).1)
            have hb46 := hidI (hb45.out.trans hbn)
            have hs6 : w2.heap.size ≤ w6.heap.size := by have := hbn.size; omega
            obtain ⟨q6, hq6⟩ := exq (q + 1)
            obtain ⟨o6, p6, hv6⟩ : ∃ g c, v6 = Value.slice g q6 c := by
             have e : q6 = (vts S ++ [y]).length := by rw [List.length_append, hvq.out, hq6]; rfl
             rw [e]
             obtain ⟨h1, h2 | ⟨g, cap, cur, e, _⟩⟩ := hown6
             · exact ⟨none, 0, by rw [h2.1, h2.2]⟩
             · exact ⟨_, _, e⟩
            subst hv6
            have hrw6 := (hco6.1.row (by simp; omega)).read
            obtain ⟨ob6, oo6, hob6, hobB6, c3⟩ := hrw6.at2 i (by rw [List.length_append, hvq.out]; omega)
            subst hob6
            rw [List.getD_eq_getElem?_getD, List.getElem?_append_left (by rw [hvq.out]; omega), ← List.getD_eq_getElem?_getD, vts_get (by have := hq.out; omega), huS.out] at c3
            obtain ⟨lb', loff', hlb', hlB', c4⟩ := (hco6.2.1.read).at2 k (by have := hml.out; omega)
            simp only [Option.some.injEq, Addr.mk.injEq, and_true] at hlb'
            obtain ⟨rfl, rfl⟩ := hlb'
            rw [← hz.out] at c4
            have hhiw6 := hco6.2.2.1
            obtain ⟨E, hE⟩ := exq (putAll [] (trA S))
            have hEl : E.length ≤ 1000 := by
             rw [hE]; have h1 := putAll_length (trA S) []; rw [trA_length] at h1; simp at h1; have := hq.out; omega
            rw [← hE] at hou6
            have hrE : ReadE w6.heap.size w6 u3 E := by
             obtain ⟨lo2, hi2, h1, h2, h3, h4⟩ := hou6
             exact h3.read.mono h2
            obtain ⟨e3a, e3c, hu3, _⟩ := hrE.form
            obtain ⟨e3m, he3m⟩ := exq E.length
            rw [← he3m] at hu3
            subst hu3
            have hfinS : ∀ (W : World) (a7 : Value) (f l t : Int), eB u z y = (f, l, t) → Below w6.heap.size w6 W → RowS 72 3 W w6.heap.size W.heap.size a7 (putE (f, l, t) E).length (flatE (putE (f, l, t) E)) → TrI W w2.heap.size w.heap.size lo hi (.slice (some ⟨ob6, oo6, none⟩) q6 p6) a7 ((ls.take (k + 1)).foldl (arr1 es i) S0) (.slice (some ⟨lb, loff, none⟩) ml cl) ls := fun W a7 f l t he hbW hrow => by
             have hE2 : putAll [] (trA (S ++ [((y, z, (i : Int)), (S.getD i d0).2 ++ [z])])) = putE (f, l, t) E := by rw [htrA.out, putAll_snoc, huS.out, he, hE]
             rw [hSn.out, harr.out]
             unfold TrI
             rw [hE2, vts_snoc]
             exact TrI.edge (ov := a7) (E := E) hco6 hbW hrow (by omega)
            obtain ⟨wd, hwd⟩ := exq w6.drew
            have hbd : Below w6.heap.size w6 wd := by rw [hwd]; exact below_dn (Below.refl _ _) 1
            have hsd6 : wd.heap.size = w6.heap.size := by rw [hwd]; rfl
            have hput := fun (f l t : Int) => specPut wd (.slice e3a e3m e3c) E f l t ((hrE.below hbd).mono (by omega)) (by omega)
            have d3 := below_cell c3 hbd hobB6
            have d4 := below_cell c4 hbd (by omega)
            have hfinD : ∀ (W : World) (a7 : Value) (f l t : Int), eB u z y = (f, l, t) → Below wd.heap.size wd W → RowS 72 3 W wd.heap.size W.heap.size a7 (putE (f, l, t) E).length (flatE (putE (f, l, t) E)) → TrI W w2.heap.size w.heap.size lo hi (.slice (some ⟨ob6, oo6, none⟩) q6 p6) a7 ((ls.take (k + 1)).foldl (arr1 es i) S0) (.slice (some ⟨lb, loff, none⟩) ml cl) ls := fun W a7 f l t he hbW hrow => by
             rw [hsd6] at hbW hrow
             exact hfinS W a7 f l t he (hbd.trans hbW) hrow
            have hb4d := hidI (hb46.out.trans (hbd.mono hs6))
            have hqi : (i : Int) < (q6 : Int) := by omega
            replace hq6 := hidI hq6
            replace hfinS := hidI hfinS
            replace hfinD := hidI hfinD
            replace hput := hidI hput
            replace hwd := hidI hwd
            replace hsd6h := hidI hsd6
            replace hco6 := hidI hco6
            replace hou6 := hidI hou6
            replace hrE := hidI hrE
            replace he3m := hidI he3m
            replace hE := hidI hE
            clear hown6 hg6 hloc6 hbn hown5 hrw6 hbd hst5 hb45
            by_cases hzp : 0 < z
            · have heB : eB u z y = (u, z, y) := by unfold eB; rw [if_neg (by omega)]
              have hfin := hidI (fun W a7 => hfinD.out W a7 u z y heB)
              have hcallP := hput.out u z y
              replace heB := hidI heB
              go_upto_region 16 with fail
              clear c3 c4
              go_wp2
              refine hideQ (fun _ _ d _ _ h => by cases d <;> exact h) (fun Q' hnorm hpan => ?_)
              refine wp_region_held_drew (S := (fun W0 => W0.cell? ⟨ob6, oo6 + i, none⟩ = some (.int .i64 u) ∧ W0.cell? ⟨lb, loff + k, none⟩ = some (.int .i64 z))) (by kernel_rfl) ?_ (fun hHeld => ?_)
              · try dsimp only
                (try rw [← hwd.out]); ((repeat' apply And.intro) <;> with_reducible assumption)
              rw [← hwd.out] at hHeld ⊢
              refine tk 0 56 ?_
              refine tk 1 57 ?_
              refine tk 2 58 ?_
              refine tk 3 59 ?_
              refine tk 4 60 ?_
              refine tk 5 61 ?_
              refine tk 6 62 ?_
              refine tk 7 63 ?_
              refine tk 8 64 ?_
              refine tk 9 65 ?_
              refine tk 10 66 ?_
              refine rd 11 (fun K hK => ?_)
              rw [if_pos (by rfl)]
              go_simp
              refine hcallP.mono ?_
              rintro e w8 ⟨a8, c8, rfl, hrow8, hb8⟩
              have x3 := below_cell d3 hb8 (by omega)
              have x4 := below_cell d4 hb8 (by omega)
              refine hK.out _ _ ?_ (fun hHeld => ?_)
              · try dsimp only
                (try rw [← hwd.out]); ((repeat' apply And.intro) <;> with_reducible assumption)
              clear hK
              try simp only [Act.put, lyA, lyB, lyC]
              refine tk 12 3 ?_
              refine wpAnyH_done (by kernel_rfl) ?_ _
              refine hnorm _ _ ?_
              clear hnorm hpan
              repeat clear hHeld
              try simp only [Exit.then]
              have hst8 := hidI (hfin.out w8 _ hb8 hrow8)
              have hb48 := hidI (hb4d.out.trans (hb8.mono (by omega)))
              have hs8 : w2.heap.size ≤ w8.heap.size := by have := hb8.size; omega
              clear hb8 hrow8 hcallP
              go_wp2
              go_roundg (ml - (k + 1))
              case rel => exact ⟨k + 1, by have := hk.out; omega, by go_num, hst8, hb48, hs8⟩
              case measure => have := hk.out; omega
            · have heB : eB u z y = (y, -z, u) := by unfold eB; rw [if_pos (by omega)]
              have hfin := hidI (fun W a7 => hfinD.out W a7 y (-z) u heB)
              have hcallP := hput.out y (-z) u
              have hnz : IntKind.i64.wrap (-z) = -z := IntWalk.i64_in _ (by omega)
              replace heB := hidI heB
              go_upto_region 17 with fail
              clear c3 c4
              go_wp2
              refine hideQ (fun _ _ d _ _ h => by cases d <;> exact h) (fun Q' hnorm hpan => ?_)
              refine wp_region_held_drew (S := (fun W0 => W0.cell? ⟨ob6, oo6 + i, none⟩ = some (.int .i64 u) ∧ W0.cell? ⟨lb, loff + k, none⟩ = some (.int .i64 z))) (by kernel_rfl) ?_ (fun hHeld => ?_)
              · try dsimp only
                (try rw [← hwd.out]); ((repeat' apply And.intro) <;> with_reducible assumption)
              rw [← hwd.out] at hHeld ⊢
              refine tk 0 68 ?_
              refine tk 1 69 ?_
              refine tk 2 70 ?_
              refine tk 3 71 ?_
              refine tk 4 72 ?_
              refine tk 5 73 ?_
              refine tk 6 74 ?_
              refine tk 7 75 ?_
              refine tk 8 76 ?_
              refine tk 9 77 ?_
              refine tk 10 78 ?_
              refine tk 11 79 ?_
              refine rd 12 (fun K hK => ?_)
              rw [if_pos (by rfl)]
              go_simp
              refine hcallP.mono ?_
              rintro e w8 ⟨a8, c8, rfl, hrow8, hb8⟩
              have x3 := below_cell d3 hb8 (by omega)
              have x4 := below_cell d4 hb8 (by omega)
              refine hK.out _ _ ?_ (fun hHeld => ?_)
              · try dsimp only
                (try rw [← hwd.out]); ((repeat' apply And.intro) <;> with_reducible assumption)
              clear hK
              try simp only [Act.put, lyA, lyB, lyC]
              refine tk 13 3 ?_
              refine wpAnyH_done (by kernel_rfl) ?_ _
              refine hnorm _ _ ?_
              clear hnorm hpan
              repeat clear hHeld
              try simp only [Exit.then]
              have hst8 := hidI (hfin.out w8 _ hb8 hrow8)
              have hb48 := hidI (hb4d.out.trans (hb8.mono (by omega)))
              have hs8 : w2.heap.size ≤ w8.heap.size := by have := hb8.size; omega
              clear hb8 hrow8 hcallP
              go_wp2
              go_roundg (ml - (k + 1))
              case rel => exact ⟨k + 1, by have := hk.out; omega, by go_num, hst8, hb48, hs8⟩
              case measure => have := hk.out; omega
      · obtain rfl : k = ml := by omega
        have hki : ¬ (k : Int) < (k : Int) := by omega
        have hst6 : Hid (TrI wr w2.heap.size w.heap.size lo hi (.slice og q oc) u3 (arrN es ls 0 (i + 1)) (.slice al k cl) ls) := hidI (by rw [hnxR.out, ← hml.out, ← hS]; exact hst.out)
        have hb6 := hb
        replace hS := hidI hS
        replace hq := hidI hq
        replace hk := hidI hk
        replace hLa := hidI hLa
        replace hgS := hidI hgS
        clear hst hb
        go_wp2
        go_roundg (41 - (i + 1))
        case rel => exact ⟨i + 1, by have := hi41.out; omega, by go_num, hst6, hb6, hsw⟩
        case measure => have := hi41.out; omega
   · have hii : ¬ (i : Int) < (p : Int) := by omega
     have hst41 : arrN es ls 0 41 = S0 := by
      rw [hS0]; exact arrN_end (by rw [← hS0, ← hp]; exact hlt) (by omega)
     have hfin : ∃ a3 c3, u3 = Value.slice a3 F.length c3 ∧ LwEdges w F (.returned u3) wr := by
      obtain ⟨lo2, hi2, h1, h2, h3, h4⟩ := hst.out.2
      rw [← hst41, ← hF40.out] at h3
      obtain ⟨a3, c3, rfl, _⟩ := h3.read.form
      exact ⟨a3, c3, rfl, a3, c3, rfl, h3.wide h1 h2, hb14.out.trans (hb.out.mono (by omega))⟩
     obtain ⟨a3, c3, hu3, hfin⟩ := hfin
     obtain ⟨m3, hm3⟩ := exq F.length
     rw [← hm3] at hu3
     subst hu3
     replace hm3 := hidI hm3
     replace hfin := hidI hfin
     replace hS0 := hidI hS0
     replace hp := hidI hp
     replace hst41 := hidI hst41
     replace hgi := hidI hgi
     go_wp2
     go_ret
     exact hfin.out
end Go.Proofs.YtpjlamnjiilgbaaGreat
