import Derived.Defers
import Derived.Deep.RegionHeld3
import Derived.Laws.ResultCell
import Derived.Test.YtpjlamnjiilgbaaGreatJ21Ba
import Derived.Test.YtpjlamnjiilgbaaGreatJ9Ba
import Derived.Test.YtpjlamnjiilgbaaGreatJ15Ba
import Derived.Test.YtpjlamnjiilgbaaGreatJ4Ba
namespace Go.Proofs.YtpjlamnjiilgbaaGreat
open Go.RowKit
set_option linter.unusedVariables false
theorem map_getD_ng (zs : List Int) (k : Nat) (h : k < zs.length) : (zs.map ng).getD k 0 = ng (zs.getD k 0) := by
 simp [List.getD_eq_getElem?_getD, h]
set_option maxHeartbeats 1600000 in
theorem invert_any (w : World) (v : Value) (zs : List Int) (h : ReadI w.heap.size w v zs) (hl : zs.length ≤ 1000000000) :
 Calls Tryz.prog 96 #[v] w (IntsRet w (invL zs)) := by
 have hread := h
 obtain ⟨_, a, cap, rfl, hq1, hq2⟩ := h
 clear hq1 hq2
 obtain ⟨n, hn⟩ := exq zs.length
 obtain ⟨i0, hi, hz0, hz1, hz2⟩ := info_parts infoInt
 rw [← hn] at hl hread ⊢
 replace hn := hidI hn
 replace hread := hidI hread
 go_enter Tryz.func96, Tryz.ntmps96
 go_wp2_with (at_make; go_must (refine wpList_make_full _ rfl _ _ 46 rfl w.heap.size 3 i0 (.int .i64 0) 1 Tryz.underlying46 hi hz0 hz1 .i64 .i64 _ _ n rfl rfl rfl rfl ?c1 ?c2 ?c3 ?_))
 case c1 => rw [hz2]; omega
 case c2 => unfold maxLen; omega
 case c3 => exact Nat.le_refl _
 intro w1 hown hg
 rw [made_ints] at hown
 have hb := (Below.refl w.heap.size w).grown hg (Nat.le_refl _) (by intro k hk; cases hk)
 clear hg hi hz0 hz1 hz2
 replace hown := hidI hown
 have hml : (zs.map ng).length = n := by rw [List.length_map]; exact hn.out.symm
 replace hml := hidI hml
 go_wp2
 go_loopg [11] n (fun g i wr => ∃ k : Nat, k + g = n ∧ i = .int .i64 k ∧ wr.ownsRow w.heap.size 3 1 (.slice (some ⟨w.heap.size, 0, none⟩) n n) n ((padR (zs.map ng) k).map iv) ∧ Below w.heap.size w wr)
 case atStart => exact ⟨0, by omega, rfl, by rw [padR_zero, hml.out]; exact hown.out, hb⟩
 case round =>
  clear hown hb
  obtain ⟨k, hk, rfl, hown, hb⟩ := hrel
  by_cases hlt : k < n
  · obtain ⟨b, off, rfl, hB, hcell⟩ := (hread.out.below hb).at_ k (by have := hn.out; omega)
    obtain ⟨z, hz⟩ := exq (zs.getD k 0)
    obtain ⟨i, hi⟩ : ∃ i, n = k + 1 + i := ⟨n - (k + 1), by omega⟩
    rw [← hz] at hcell
    have hold : ∃ v, wr.cell? ⟨w.heap.size, i, none⟩ = some v := by
     rw [hown.cellAt _ (by omega)]
     exact ⟨_, List.getElem?_eq_getElem (by rw [List.length_map, padR_length _ _ (by have := hml.out; omega)]; have := hml.out; omega)⟩
    obtain ⟨v, hold⟩ := hold
    have hfr := hown.frozenAt i
    have hst := (hown.stored i (iv (ng z))).1
    have hpi : (zs.map ng).length - 1 - k = i := by have := hml.out; omega
    have hstep := padR_step (zs.map ng) k (by have := hml.out; omega)
    rw [map_getD_ng zs k (by have := hn.out; omega), ← hz, hpi] at hstep
    rw [← List.map_set, hstep] at hst
    have hidx : (n : Int) - 1 - (k : Int) = (i : Int) := by omega
    have hin : (i : Int) < (n : Int) := by omega
    have hlt2 : (k : Int) < (n : Int) := by omega
    have hbb := hb.setCell (p := ⟨w.heap.size, i, none⟩) (Nat.le_refl _) (iv (ng z))
    replace hst := hidI hst
    replace hz := hidI hz
    replace hown := hidI hown
    replace hi := hidI hi
    replace hk := hidI hk
    clear hpi hstep
    go_wp2
    go_roundg (n - (k + 1))
    case rel => exact ⟨k + 1, by have := hk.out; omega, by go_num, hst.out, hbb⟩
    case measure => have := hk.out; omega
  · obtain rfl : k = n := by omega
    have hrow : RowI wr w.heap.size wr.heap.size (.slice (some ⟨w.heap.size, 0, none⟩) k k) (invL zs) := by
     have hnl := hml.out
     refine RowI.of_owns ?_ (by rw [invL_length]; have := hn.out; omega)
     rw [invL_length, ← hn.out]
     have := hown
     have e : padR (zs.map ng) k = invL zs := by
      have := padR_full (zs.map ng)
      rw [hnl] at this
      exact this
     rw [e] at this
     exact this
    replace hrow := hidI hrow
    replace hown := hidI hown
    replace hk := hidI hk
    go_wp2
    go_ret
    exact ⟨_, rfl, hrow.out, hb⟩
theorem readLL_lit {w : World} {vs : List Value} {zss : List (List Int)} (C : Array Value) (hC : C = vs.toArray) (hl : vs.length = zss.length) (hlen : zss.length ≤ 1000) (hr : ∀ i, i < zss.length → ReadI w.heap.size w (vs.getD i undef) (zss.getD i [])) :
 ReadLL (w.heap.size + 1) (w.alloc (.cells C 46)) (.slice (some ⟨w.heap.size, 0, none⟩) zss.length zss.length) zss := by
 subst hC
 refine ⟨by omega, _, _, rfl, .inr ⟨_, _, rfl, by omega, fun i hi => ⟨vs.getD i undef, ?_, ?_⟩⟩⟩
 · rw [World.cell?, heap_alloc_new]
   simp [List.getD_eq_getElem?_getD, hl, hi]
 · exact ((hr i hi).below ((Below.refl _ _).alloc (Nat.le_refl _) _)).mono (by omega)
theorem IntsRet.over {w w1 : World} {zs : List Int} {e : Ending} {w' : World} (h : IntsRet w1 zs e w') (hb : Below w.heap.size w w1) : IntsRet w zs e w' := by
 obtain ⟨v, rfl, hrow, hb1⟩ := h
 exact ⟨v, rfl, hrow.wide hb.size (Nat.le_refl _), hb.trans (hb1.mono hb.size)⟩
theorem ReadI.form {B : Nat} {w : World} {v : Value} {zs : List Int} (h : ReadI B w v zs) : ∃ a n cap, v = .slice a n cap := by
 obtain ⟨_, a, cap, hv, _⟩ := h
 exact ⟨a, _, cap, hv⟩
set_option maxHeartbeats 400000 in
theorem reduce_any (w : World) (v : Value) (zs : List Int) (h : ReadI w.heap.size w v zs) (hin : InR zs) (hl : zs.length ≤ 1000000000) :
 Calls Tryz.prog 80 #[v] w (IntsRet w (redL zs)) := by
 obtain ⟨a, n, cap, hv⟩ := h.form
 rw [hv]
 rw [hv] at h
 clear hv
 have hb := (Below.refl w.heap.size w).alloc (Nat.le_refl _) (.cells #[.slice a n cap] 46)
 have hll : ReadLL (w.heap.size + 1) (w.alloc (.cells #[.slice a n cap] 46)) (.slice (some ⟨w.heap.size, 0, none⟩) 1 1) [zs] := readLL_lit (vs := [.slice a n cap]) (zss := [zs]) _ rfl rfl (by simp) (by intro i hi; simp at hi; subst hi; exact h)
 have e : [zs].flatten = zs := by simp
 have hcall := multiplyAll_any (w.alloc (.cells #[.slice a n cap] 46)) _ [zs] (by simpa using hll) (by rw [e]; exact hin) (by rw [e]; exact hl)
 rw [e] at hcall
 replace e := hidI e
 clear hll
 go_enter Tryz.func80, Tryz.ntmps80
 go_wp2_with fail
 refine hcall.mono ?_
 rintro e1 w1 hr1
 have hr := hr1.over hb
 clear hr1 hcall
 obtain ⟨v1, rfl, hrow, hb1⟩ := hr
 replace hrow := hidI hrow
 go_wp2
 go_ret
 exact ⟨_, rfl, hrow.out, hb1⟩
set_option maxHeartbeats 400000 in
theorem multiply_any (w : World) (v0 v1 : Value) (z0 z1 : List Int) (h0 : ReadI w.heap.size w v0 z0) (h1 : ReadI w.heap.size w v1 z1) (hi0 : InR z0) (hi1 : InR z1) (hl : z0.length + z1.length ≤ 1000000000) :
 Calls Tryz.prog 95 #[v0, v1] w (IntsRet w (mulL z0 z1)) := by
 obtain ⟨a0, n0, cap0, hv0⟩ := h0.form
 obtain ⟨a1, n1, cap1, hv1⟩ := h1.form
 rw [hv0, hv1]
 rw [hv0] at h0
 rw [hv1] at h1
 clear hv0 hv1
 have hb := (Below.refl w.heap.size w).alloc (Nat.le_refl _) (.cells #[.slice a0 n0 cap0, .slice a1 n1 cap1] 46)
 have hll : ReadLL (w.heap.size + 1) (w.alloc (.cells #[.slice a0 n0 cap0, .slice a1 n1 cap1] 46)) (.slice (some ⟨w.heap.size, 0, none⟩) 2 2) [z0, z1] := readLL_lit (vs := [.slice a0 n0 cap0, .slice a1 n1 cap1]) (zss := [z0, z1]) _ rfl rfl (by simp) (by
  intro i hi
  match i, hi with
  | 0, _ => exact h0
  | 1, _ => exact h1)
 have e : [z0, z1].flatten = z0 ++ z1 := by simp
 have hcall := multiplyAll_any (w.alloc (.cells #[.slice a0 n0 cap0, .slice a1 n1 cap1] 46)) _ [z0, z1] (by simpa using hll) (by rw [e]; exact hi0.append hi1) (by rw [e, List.length_append]; exact hl)
 rw [e] at hcall
 replace e := hidI e
 clear hll
 go_enter Tryz.func95, Tryz.ntmps95
 go_wp2_with fail
 refine hcall.mono ?_
 rintro e1 w1 hr1
 have hr := hr1.over hb
 clear hr1 hcall
 obtain ⟨v1, rfl, hrow, hb1⟩ := hr
 replace hrow := hidI hrow
 go_wp2
 go_ret
 exact ⟨_, rfl, hrow.out, hb1⟩
end Go.Proofs.YtpjlamnjiilgbaaGreat
namespace Go.Proofs.YtpjlamnjiilgbaaGreat
open Go.RowKit Go.Maps
set_option linter.unusedVariables false
set_option linter.unusedSimpArgs false
theorem results_cell_one {fn : Func} {p : Tmp} {ty : TypeId} {g : Nat} {v : Value} (h : fn.results = #[.cell p ty]) (tmps : Array Value) (w : World) (hp : tmps.getD p undef = .pointer (some ⟨g, 0, none⟩)) (hc : w.cell? ⟨g, 0, none⟩ = some v)
 (ha : (isAgg ty).run Tryz.prog w = .ok false w) : (results fn tmps).run Tryz.prog w = .ok v w := by
 have hp' : tmps[p]?.getD undef = .pointer (some ⟨g, 0, none⟩) := by simpa using hp
 simp [results, h, hp', asAddr, loadVar, Sem.run_bind, ha, hc, go_sem]
structure LpSt (w : World) (B G T E : Nat) (vw vF : Value) (S : List Ar) (e : Ed) (W : List Int) : Prop where
 row : w.heap[G]? = some (.cells #[vw] 46 (0, 0))
 tree : w.cell? ⟨T, 0, none⟩ = some vF
 ef : w.cell? ⟨E, 0, none⟩ = some (.int .i64 e.1)
 el : w.cell? ⟨E, 1, none⟩ = some (.int .i64 e.2.1)
 et : w.cell? ⟨E, 2, none⟩ = some (.int .i64 e.2.2)
 rdT : ∃ q, q ≤ G ∧ ReadE q w vF (S.map (·.1))
 rdW : ReadI B w vw W
 ltG : G < B
 ltT : T < B
 ltE : E < B
 ltB : B ≤ w.heap.size
theorem LpSt.below {w w' : World} {B G T E : Nat} {vw vF : Value} {S : List Ar} {e : Ed} {W : List Int} (h : LpSt w B G T E vw vF S e W) (hb : Below B w w') : LpSt w' B G T E vw vF S e W := by
 obtain ⟨h1, h2, h3, h4, h5, h6, h7, h8, h9, h10, h11⟩ := h
 have := hb.size
 exact ⟨by rw [hb.block G h8]; exact h1, below_cell h2 hb h9, below_cell h3 hb h10, below_cell h4 hb h10, below_cell h5 hb h10, (by obtain ⟨q, q1, q2⟩ := h6; exact ⟨q, q1, q2.below (hb.mono (by omega))⟩), h7.below hb, h8, h9, h10, by omega⟩
theorem LpSt.read {w : World} {B G T E : Nat} {vw vF : Value} {S : List Ar} {e : Ed} {W : List Int} (h : LpSt w B G T E vw vF S e W) : ReadE w.heap.size w vF (S.map (·.1)) := by
 obtain ⟨q, q1, q2⟩ := h.rdT
 exact q2.mono (by have := h.ltG; have := h.ltB; omega)
theorem LpSt.put {w : World} {B G T E base : Nat} {vw vF v : Value} {S : List Ar} {e : Ed} {W Z : List Int} (h : LpSt w B G T E vw vF S e W) (ho : OwnsI w base v Z) (hB : B ≤ base) (hl : Z.length ≤ 1000) (hTG : T ≠ G) (hEG : E ≠ G) :
 LpSt (w.setCell ⟨G, 0, none⟩ v) w.heap.size G T E v vF S e Z := by
 have hrow := OwnsI.row ho (by omega)
 have k : ∀ j q, q ≠ G → (w.setCell ⟨G, 0, none⟩ v).cell? ⟨q, j, none⟩ = w.cell? ⟨q, j, none⟩ := fun j q hq => World.cell?_of_block (Below.heap_setCell _ _ _ _ hq)
 have hGB := h.ltG
 have hls := h.ltB
 have hrd := (hrow.keep (w' := w.setCell ⟨G, 0, none⟩ v) (fun q h1 h2 => Below.heap_setCell _ _ _ _ (show q ≠ G by omega))).read
 have hrt : ∃ q, q ≤ G ∧ ReadE q (w.setCell ⟨G, 0, none⟩ v) vF (S.map (·.1)) := by
  obtain ⟨q, q1, q2⟩ := h.rdT
  exact ⟨q, q1, q2.below ((Below.refl q w).setCell (p := ⟨G, 0, none⟩) q1 v)⟩
 exact ⟨heap_setCell_same w G 0 _ _ v h.row, (k 0 T hTG).trans h.tree, (k 0 E hEG).trans h.ef, (k 1 E hEG).trans h.el, (k 2 E hEG).trans h.et, hrt, hrd, by omega, by have := h.ltT; omega, by have := h.ltE; omega, by simp [World.setCell]⟩
theorem readI_one (w : World) (l : Int) : ReadI (w.heap.size + 1) (w.alloc (.cells #[.int .i64 l] 3)) (.slice (some ⟨w.heap.size, 0, none⟩) 1 1) [l] := by
 refine ⟨by simp, some ⟨w.heap.size, 0, none⟩, 1, rfl, ⟨fun h => (by cases h), by simp⟩, .inr ⟨w.heap.size, 0, rfl, by omega, fun i hi => ?_⟩⟩
 have h0 : i = 0 := by simpa using hi
 subst h0
 have := heap_alloc_new w (.cells #[.int .i64 l] 3)
 rw [cell_of_heap this]; rfl
theorem OwnsI.keptB {w w' : World} {base : Nat} {v : Value} {zs : List Int} (h : OwnsI w base v zs) (hb : Below w.heap.size w w') : OwnsI w' base v zs := ownI_other h (fun k hk => hb.block k (World.ownsRow.lt h k hk).2)
theorem rowI_form3 {w : World} {lo hi : Nat} {v : Value} {zs : List Int} (h : RowI w lo hi v zs) : ∃ a m c, v = Value.slice a m c := by
 obtain ⟨_, ⟨h1, _⟩ | ⟨g, off, cap, cur, h1, _⟩⟩ := h <;> exact ⟨_, _, _, h1⟩
def BackRet (w : World) (base G : Nat) (Z : List Int) (u : FrameMode) (e : Ending) (u' : FrameMode) (w' : World) : Prop :=
 u' = u ∧ (e = .returned (.tuple #[]) ∧ ∃ v, w'.heap[G]? = some (.cells #[v] 46 (0, 0)) ∧ RowI w' base w'.heap.size v Z ∧ Below base w w')
theorem wdA_in {s : Nat} {u : Int} {S : List Ar} (h : GoodA s u S) (v : Int) : ∀ z ∈ wdA S v, -3 ≤ z ∧ z ≤ 3 := by
 unfold wdA
 split
 case isFalse => intro z hz; cases hz
 case isTrue hin =>
  have hall : ∀ n j, j ≤ n → j < S.length → ∀ z ∈ (S.getD j d0).2, -3 ≤ z ∧ z ≤ 3 := by
   intro n
   induction n with
   | zero =>
    intro j hj _ z hz
    obtain rfl : j = 0 := by omega
    rw [h.zero] at hz
    cases hz
   | succ n ih =>
    intro j hj hjl z hz
    rcases Nat.eq_zero_or_pos j with h0 | h0
    · subst h0
      rw [h.zero] at hz
      cases hz
    · obtain ⟨b, hb, _, h2⟩ := h.back j h0 hjl
      rw [h2, List.mem_append] at hz
      rcases hz with hz | hz
      · exact ih b (by omega) (by omega) z hz
      · rw [List.mem_singleton] at hz
        rw [hz]; exact h.lets j hjl
  exact hall _ _ (Nat.le_refl _) (placeA_lt hin).1
theorem wdA_length {s : Nat} {u : Int} {S : List Ar} (h : GoodA s u S) (v : Int) : (wdA S v).length ≤ S.length := by
 unfold wdA
 split
 · rename_i hin
   have hp := placeA_lt hin
   have := h.wlen _ hp.1
   omega
 · simp
set_option maxRecDepth 100000 in
set_option maxHeartbeats 6400000 in
theorem back_any (w : World) (u : FrameMode) (base B G T E : Nat) (s : Nat) (vw vF : Value) (S : List Ar) (e : Ed) (W : List Int) (h : LpSt w B G T E vw vF S e W) (hgood : GoodA s 0 S) (hl40 : S.length ≤ 40) (hWr : InR W) (hWl : W.length ≤ 1000) (hbG : base ≤ G) (hTG : T ≠ G) (hEG : E ≠ G) :
 CallsD Tryz.prog 94 #[.pointer (some ⟨G, 0, none⟩), .pointer (some ⟨T, 0, none⟩), .pointer (some ⟨E, 0, none⟩)] u w (BackRet w base G (mulL W (invL (wdA S e.2.2))) u) := by
 obtain ⟨f, l, t⟩ := e
 obtain ⟨wd, hwd⟩ := exq w.drew
 have hbd : Below w.heap.size w wd := by rw [hwd]; exact below_dn (Below.refl _ _) 1
 have hsd : wd.heap.size = w.heap.size := by rw [hwd]; rfl
 have hst : LpSt wd B G T E vw vF S (f, l, t) W := h.below (hbd.mono h.ltB)
 have hltB : B ≤ wd.heap.size := hst.ltB
 obtain ⟨aw, nw, cw, hvw⟩ := h.rdW.form
 obtain ⟨aF, mF, cF, hvF⟩ : ∃ a m c, vF = Value.slice a m c := by obtain ⟨a, c, h, _⟩ := h.read.form; exact ⟨_, _, _, h⟩
 subst hvw
 subst hvF
 have hGlt := hst.ltG
 obtain ⟨Y, hY⟩ := exq (wdA S t)
 have hYl : Y.length ≤ 40 := by rw [hY]; have := wdA_length hgood t; omega
 have hYin : ∀ z ∈ Y, -3 ≤ z ∧ z ≤ 3 := by rw [hY]; exact wdA_in hgood t
 have hIr : InR (invL Y) := InR.invL
 have hIl : (invL Y).length ≤ 40 := by rw [invL_length]; exact hYl
 have hword : ∀ W0 : World, LpSt W0 B G T E (.slice aw nw cw) (.slice aF mF cF) S (f, l, t) W → Calls Tryz.prog 97 #[.slice aF mF cF, .int .i64 t] W0 (IntsRet W0 Y) := fun W0 q => by
  rw [hY]; exact (wordOf_any W0 s 0 _ S t q.read hgood hl40).mono fun _ _ hh => hh.ret (by rw [← hY]; omega)
 obtain ⟨ZZ, hZZ⟩ := exq (mulL W (invL Y))
 rw [← hY, ← hZZ]
 obtain ⟨-, cT, cE0, cE1, cE2, -, -, -, -, -, -⟩ := id hst
 have hfinal : ∀ (W4 W5 : World) (v : Value), LpSt W5 B G T E (.slice aw nw cw) (.slice aF mF cF) S (f, l, t) W → Below w.heap.size w W5 → RowI W5 W4.heap.size W5.heap.size v ZZ → G < W4.heap.size → base ≤ W4.heap.size → BackRet w base G ZZ u (.returned (.tuple #[])) u (W5.setCell ⟨G, 0, none⟩ v) := fun W4 W5 v q hb hr hG hB => by
  refine ⟨rfl, rfl, v, ?_, ?_, ?_⟩
  · exact heap_setCell_same W5 G 0 _ _ v q.row
  · exact (hr.keep (fun k h1 h2 => Below.heap_setCell _ _ _ _ (show k ≠ G by omega))).wide hB (by simp [World.setCell])
  · exact (hb.mono (by have := h.ltG; have := h.ltB; omega)).setCell (p := ⟨G, 0, none⟩) hbG v
 have hG0 : wd.cell? ⟨G, 0, none⟩ = some (.slice aw nw cw) := cell_of_heap hst.row 0
 replace hfinal := hidI hfinal
 replace hword := hidI hword
 replace hY := hidI hY
 replace hYin := hidI hYin
 replace hIr := hidI hIr
 replace hIl := hidI hIl
 replace hYl := hidI hYl
 replace hZZ := hidI hZZ
 replace hWr := hidI hWr
 replace hgood := hidI hgood
 replace hbd0 := hidI hbd
 replace hst := hidI hst
 replace hwd := hidI hwd
 replace h := hidI h
 clear hbd
 go_enter_d Tryz.func94, Tryz.ntmps94
 go_wp2
 refine hideQ (fun _ _ d _ _ h => by cases d <;> exact h) (fun Q' hnorm hpan => ?_)
 refine wp_region_held_drew (S := (fun W0 => W0.cell? ⟨T, 0, none⟩ = some (.slice aF mF cF) ∧ W0.cell? ⟨E, 2, none⟩ = some (.int .i64 t))) (by kernel_rfl) ?_ (fun hHeld => ?_)
 · try dsimp only
   rw [← hwd.out]; exact ⟨cT, cE2⟩
 rw [← hwd.out] at hHeld ⊢
 refine tk 1 4 ?_
 refine tk 2 5 ?_
 refine tk 3 6 ?_
 refine wpAnyH_ready (rs := [0, 4]) (by kernel_rfl) (by simp) ?_
 refine AllReadyH.cons rfl (fun K hK => ?_) ?_
 ·
  rw [if_pos (by first | rfl | kernel_rfl)]
  go_simp
  skip
  refine hK.out _ _ ?_ (fun hHeld => ?_)
  · try dsimp only
    first | ((repeat' apply And.intro) <;> assumption) | exact ⟨cT, cE2⟩
  clear hK
  try simp only [Act.put, lyA, lyB, lyC]
  refine rd 4 (fun K hK => ?_)
  rw [if_pos (by first | rfl | kernel_rfl)]
  go_simp
  go_at_call 97
  (with_reducible refine (hword.out wd hst.out).mono ?_)
  rintro e w4 ⟨v4, rfl, hr4, hbn⟩
  have hlt4 := hbn.size
  replace hst := hidI (hst.out.below (hbn.mono (by have := hst.out.ltB; omega)))
  replace hbd0 := hidI (hbd0.out.trans (hbn.mono hbd0.out.size))
  obtain ⟨-, cT, -, -, cE2, -, -, -, -, -, -⟩ := id hst.out
  replace hr4 := hidI hr4.read
  clear hbn
  have hG0 : w4.cell? ⟨G, 0, none⟩ = some (.slice aw nw cw) := cell_of_heap hst.out.row 0
  refine hK.out _ _ ?_ (fun hHeld => ?_)
  · try dsimp only
    first | ((repeat' apply And.intro) <;> assumption) | exact ⟨cT, cE2⟩
  clear hK
  try simp only [Act.put, lyA, lyB, lyC]
  refine rd 5 (fun K hK => ?_)
  rw [if_pos (by first | rfl | kernel_rfl)]
  go_simp
  go_at_call 96
  (with_reducible refine (invert_any w4 v4 Y ((hr4.out).mono (by omega)) (by have := hYl.out; omega)).mono ?_)
  rintro e w5 ⟨v5, rfl, hr5, hbn⟩
  have hlt5 := hbn.size
  replace hst := hidI (hst.out.below (hbn.mono (by have := hst.out.ltB; omega)))
  replace hbd0 := hidI (hbd0.out.trans (hbn.mono hbd0.out.size))
  obtain ⟨-, cT, -, -, cE2, -, -, -, -, -, -⟩ := id hst.out
  replace hr5 := hidI hr5.read
  clear hbn
  have hG0 : w5.cell? ⟨G, 0, none⟩ = some (.slice aw nw cw) := cell_of_heap hst.out.row 0
  refine hK.out _ _ ?_ (fun hHeld => ?_)
  · try dsimp only
    first | ((repeat' apply And.intro) <;> assumption) | exact ⟨cT, cE2⟩
  clear hK
  try simp only [Act.put, lyA, lyB, lyC]
  refine rd 6 (fun K hK => ?_)
  rw [if_pos (by first | rfl | kernel_rfl)]
  go_simp
  go_at_call 95
  (with_reducible refine (multiply_any w5 (.slice aw nw cw) v5 W (invL Y) (hst.out.rdW.mono (by have := hst.out.ltB; omega)) ((hr5.out).mono (by omega)) hWr.out hIr.out (by have := hIl.out; omega)).mono ?_)
  rintro e w6 ⟨v6, rfl, hr6, hbn⟩
  obtain ⟨a6, m6, c6, rfl⟩ := rowI_form3 hr6
  have hlt6 := hbn.size
  have hGc : G < w5.heap.size := by have := hst.out.ltG; have := hst.out.ltB; omega
  replace hst := hidI (hst.out.below (hbn.mono (by have := hst.out.ltB; omega)))
  replace hbd0 := hidI (hbd0.out.trans (hbn.mono hbd0.out.size))
  obtain ⟨-, cT, -, -, cE2, -, -, -, -, -, -⟩ := id hst.out
  rw [← hZZ.out] at hr6
  have hfin := hidI (hfinal.out w5 w6 (.slice a6 m6 c6) hst.out hbd0.out hr6 hGc (by omega))
  have f6 := fun j => frozen_of_row w6 G j _ _ hst.out.row
  have hG0 : w6.cell? ⟨G, 0, none⟩ = some (.slice aw nw cw) := cell_of_heap hst.out.row 0
  have kT := (World.cell?_of_block (a := (⟨T, 0, none⟩ : Addr)) (Below.heap_setCell w6 ⟨G, 0, none⟩ (.slice a6 m6 c6) T hTG)).trans cT
  have kE := (World.cell?_of_block (a := (⟨E, 2, none⟩ : Addr)) (Below.heap_setCell w6 ⟨G, 0, none⟩ (.slice a6 m6 c6) E hEG)).trans cE2
  clear hbn hr6
  refine hK.out _ _ ?_ (fun hHeld => ?_)
  · try dsimp only
    first | ((repeat' apply And.intro) <;> assumption) | exact ⟨cT, cE2⟩
  clear hK
  try simp only [Act.put, lyA, lyB, lyC]
  refine rd 7 (fun K hK => ?_)
  rw [if_pos (by first | rfl | kernel_rfl)]
  go_simp
  replace cT := kT
  replace cE2 := kE
  refine hK.out _ _ ?_ (fun hHeld => ?_)
  · try dsimp only
    first | ((repeat' apply And.intro) <;> assumption) | exact ⟨cT, cE2⟩
  clear hK
  try simp only [Act.put, lyA, lyB, lyC]
  refine wpAnyH_done (by kernel_rfl) ?_ _
  refine hnorm _ _ ?_
  clear hnorm hpan
  repeat clear hHeld
  try simp only [Exit.then]
  go_wp2
  go_end0
  exact hfin.out.2
 refine AllReadyH.cons rfl (fun K hK => ?_) AllReadyH.nil
 rw [if_pos (by first | rfl | kernel_rfl)]
 go_simp
 go_at_call 97
 (with_reducible refine (hword.out wd hst.out).mono ?_)
 rintro e w4 ⟨v4, rfl, hr4, hbn⟩
 have hlt4 := hbn.size
 replace hst := hidI (hst.out.below (hbn.mono (by have := hst.out.ltB; omega)))
 replace hbd0 := hidI (hbd0.out.trans (hbn.mono hbd0.out.size))
 obtain ⟨-, cT, -, -, cE2, -, -, -, -, -, -⟩ := id hst.out
 replace hr4 := hidI hr4.read
 clear hbn
 have hG0 : w4.cell? ⟨G, 0, none⟩ = some (.slice aw nw cw) := cell_of_heap hst.out.row 0
 refine hK.out _ _ ?_ (fun hHeld => ?_)
 · try dsimp only
   first | ((repeat' apply And.intro) <;> assumption) | exact ⟨cT, cE2⟩
 clear hK
 try simp only [Act.put, lyA, lyB, lyC]
 refine wpAnyH_ready (rs := [0, 5]) (by kernel_rfl) (by simp) ?_
 refine AllReadyH.cons rfl (fun K hK => ?_) ?_
 ·
  rw [if_pos (by first | rfl | kernel_rfl)]
  go_simp
  skip
  refine hK.out _ _ ?_ (fun hHeld => ?_)
  · try dsimp only
    first | ((repeat' apply And.intro) <;> assumption) | exact ⟨cT, cE2⟩
  clear hK
  try simp only [Act.put, lyA, lyB, lyC]
  refine rd 5 (fun K hK => ?_)
  rw [if_pos (by first | rfl | kernel_rfl)]
  go_simp
  go_at_call 96
  (with_reducible refine (invert_any w4 v4 Y ((hr4.out).mono (by omega)) (by have := hYl.out; omega)).mono ?_)
  rintro e w5 ⟨v5, rfl, hr5, hbn⟩
  have hlt5 := hbn.size
  replace hst := hidI (hst.out.below (hbn.mono (by have := hst.out.ltB; omega)))
  replace hbd0 := hidI (hbd0.out.trans (hbn.mono hbd0.out.size))
  obtain ⟨-, cT, -, -, cE2, -, -, -, -, -, -⟩ := id hst.out
  replace hr5 := hidI hr5.read
  clear hbn
  have hG0 : w5.cell? ⟨G, 0, none⟩ = some (.slice aw nw cw) := cell_of_heap hst.out.row 0
  refine hK.out _ _ ?_ (fun hHeld => ?_)
  · try dsimp only
    first | ((repeat' apply And.intro) <;> assumption) | exact ⟨cT, cE2⟩
  clear hK
  try simp only [Act.put, lyA, lyB, lyC]
  refine rd 6 (fun K hK => ?_)
  rw [if_pos (by first | rfl | kernel_rfl)]
  go_simp
  go_at_call 95
  (with_reducible refine (multiply_any w5 (.slice aw nw cw) v5 W (invL Y) (hst.out.rdW.mono (by have := hst.out.ltB; omega)) ((hr5.out).mono (by omega)) hWr.out hIr.out (by have := hIl.out; omega)).mono ?_)
  rintro e w6 ⟨v6, rfl, hr6, hbn⟩
  obtain ⟨a6, m6, c6, rfl⟩ := rowI_form3 hr6
  have hlt6 := hbn.size
  have hGc : G < w5.heap.size := by have := hst.out.ltG; have := hst.out.ltB; omega
  replace hst := hidI (hst.out.below (hbn.mono (by have := hst.out.ltB; omega)))
  replace hbd0 := hidI (hbd0.out.trans (hbn.mono hbd0.out.size))
  obtain ⟨-, cT, -, -, cE2, -, -, -, -, -, -⟩ := id hst.out
  rw [← hZZ.out] at hr6
  have hfin := hidI (hfinal.out w5 w6 (.slice a6 m6 c6) hst.out hbd0.out hr6 hGc (by omega))
  have f6 := fun j => frozen_of_row w6 G j _ _ hst.out.row
  have hG0 : w6.cell? ⟨G, 0, none⟩ = some (.slice aw nw cw) := cell_of_heap hst.out.row 0
  have kT := (World.cell?_of_block (a := (⟨T, 0, none⟩ : Addr)) (Below.heap_setCell w6 ⟨G, 0, none⟩ (.slice a6 m6 c6) T hTG)).trans cT
  have kE := (World.cell?_of_block (a := (⟨E, 2, none⟩ : Addr)) (Below.heap_setCell w6 ⟨G, 0, none⟩ (.slice a6 m6 c6) E hEG)).trans cE2
  clear hbn hr6
  refine hK.out _ _ ?_ (fun hHeld => ?_)
  · try dsimp only
    first | ((repeat' apply And.intro) <;> assumption) | exact ⟨cT, cE2⟩
  clear hK
  try simp only [Act.put, lyA, lyB, lyC]
  refine rd 7 (fun K hK => ?_)
  rw [if_pos (by first | rfl | kernel_rfl)]
  go_simp
  replace cT := kT
  replace cE2 := kE
  refine hK.out _ _ ?_ (fun hHeld => ?_)
  · try dsimp only
    first | ((repeat' apply And.intro) <;> assumption) | exact ⟨cT, cE2⟩
  clear hK
  try simp only [Act.put, lyA, lyB, lyC]
  refine wpAnyH_done (by kernel_rfl) ?_ _
  refine hnorm _ _ ?_
  clear hnorm hpan
  repeat clear hHeld
  try simp only [Exit.then]
  go_wp2
  go_end0
  exact hfin.out.2
 refine AllReadyH.cons rfl (fun K hK => ?_) AllReadyH.nil
 rw [if_pos (by first | rfl | kernel_rfl)]
 go_simp
 go_at_call 96
 (with_reducible refine (invert_any w4 v4 Y ((hr4.out).mono (by omega)) (by have := hYl.out; omega)).mono ?_)
 rintro e w5 ⟨v5, rfl, hr5, hbn⟩
 have hlt5 := hbn.size
 replace hst := hidI (hst.out.below (hbn.mono (by have := hst.out.ltB; omega)))
 replace hbd0 := hidI (hbd0.out.trans (hbn.mono hbd0.out.size))
 obtain ⟨-, cT, -, -, cE2, -, -, -, -, -, -⟩ := id hst.out
 replace hr5 := hidI hr5.read
 clear hbn
 have hG0 : w5.cell? ⟨G, 0, none⟩ = some (.slice aw nw cw) := cell_of_heap hst.out.row 0
 refine hK.out _ _ ?_ (fun hHeld => ?_)
 · try dsimp only
   first | ((repeat' apply And.intro) <;> assumption) | exact ⟨cT, cE2⟩
 clear hK
 try simp only [Act.put, lyA, lyB, lyC]
 refine rd 0 (fun K hK => ?_)
 rw [if_pos (by first | rfl | kernel_rfl)]
 go_simp
 skip
 refine hK.out _ _ ?_ (fun hHeld => ?_)
 · try dsimp only
   first | ((repeat' apply And.intro) <;> assumption) | exact ⟨cT, cE2⟩
 clear hK
 try simp only [Act.put, lyA, lyB, lyC]
 refine rd 6 (fun K hK => ?_)
 rw [if_pos (by first | rfl | kernel_rfl)]
 go_simp
 go_at_call 95
 (with_reducible refine (multiply_any w5 (.slice aw nw cw) v5 W (invL Y) (hst.out.rdW.mono (by have := hst.out.ltB; omega)) ((hr5.out).mono (by omega)) hWr.out hIr.out (by have := hIl.out; omega)).mono ?_)
 rintro e w6 ⟨v6, rfl, hr6, hbn⟩
 obtain ⟨a6, m6, c6, rfl⟩ := rowI_form3 hr6
 have hlt6 := hbn.size
 have hGc : G < w5.heap.size := by have := hst.out.ltG; have := hst.out.ltB; omega
 replace hst := hidI (hst.out.below (hbn.mono (by have := hst.out.ltB; omega)))
 replace hbd0 := hidI (hbd0.out.trans (hbn.mono hbd0.out.size))
 obtain ⟨-, cT, -, -, cE2, -, -, -, -, -, -⟩ := id hst.out
 rw [← hZZ.out] at hr6
 have hfin := hidI (hfinal.out w5 w6 (.slice a6 m6 c6) hst.out hbd0.out hr6 hGc (by omega))
 have f6 := fun j => frozen_of_row w6 G j _ _ hst.out.row
 have hG0 : w6.cell? ⟨G, 0, none⟩ = some (.slice aw nw cw) := cell_of_heap hst.out.row 0
 have kT := (World.cell?_of_block (a := (⟨T, 0, none⟩ : Addr)) (Below.heap_setCell w6 ⟨G, 0, none⟩ (.slice a6 m6 c6) T hTG)).trans cT
 have kE := (World.cell?_of_block (a := (⟨E, 2, none⟩ : Addr)) (Below.heap_setCell w6 ⟨G, 0, none⟩ (.slice a6 m6 c6) E hEG)).trans cE2
 clear hbn hr6
 refine hK.out _ _ ?_ (fun hHeld => ?_)
 · try dsimp only
   first | ((repeat' apply And.intro) <;> assumption) | exact ⟨cT, cE2⟩
 clear hK
 try simp only [Act.put, lyA, lyB, lyC]
 refine rd 7 (fun K hK => ?_)
 rw [if_pos (by first | rfl | kernel_rfl)]
 go_simp
 replace cT := kT
 replace cE2 := kE
 refine hK.out _ _ ?_ (fun hHeld => ?_)
 · try dsimp only
   first | ((repeat' apply And.intro) <;> assumption) | exact ⟨cT, cE2⟩
 clear hK
 try simp only [Act.put, lyA, lyB, lyC]
 refine wpAnyH_done (by kernel_rfl) ?_ _
 refine hnorm _ _ ?_
 clear hnorm hpan
 repeat clear hHeld
 try simp only [Exit.then]
 go_wp2
 go_end0
 exact hfin.out.2
set_option maxRecDepth 100000 in
set_option maxHeartbeats 6400000 in
theorem loop_any (w : World) (s : Nat) (vF : Value) (S : List Ar) (e : Ed) (h : ReadE w.heap.size w vF (S.map (·.1))) (hgood : GoodA s 0 S) (hl40 : S.length ≤ 40) (hin : -9223372036854775808 ≤ e.2.1 ∧ e.2.1 ≤ 9223372036854775807) :
 Calls Tryz.prog 56 #[vF, .agg #[.int .i64 e.1, .int .i64 e.2.1, .int .i64 e.2.2]] w (IntsRet w (mulL (wdA S e.1 ++ [e.2.1]) (invL (wdA S e.2.2)))) := by
 have hmf : ∀ (fn : Fn) (first cap : Array Value) (w : World), (Instr.makeFunc fn first cap).run Tryz.prog w = .ok (.func fn first cap) w := fun _ _ _ _ => rfl
 obtain ⟨aF, cF, hvF, _⟩ := h.form
 obtain ⟨mF, hmF⟩ := exq ((S.map (·.1)).length)
 rw [← hmF] at hvF
 subst hvF
 obtain ⟨wa, hwa⟩ := exq (w.alloc (.cells #[.slice aF mF cF] 76))
 obtain ⟨wb, hwb⟩ := exq (wa.alloc (.cells #[.int .i64 e.1, .int .i64 e.2.1, .int .i64 e.2.2] 72))
 obtain ⟨w1, hw1⟩ := exq (wb.alloc (.cells #[.slice none 0 0] 46))
 have hba : Below w.heap.size w wa := by rw [hwa]; exact (Below.refl _ _).alloc (Nat.le_refl _) _
 have hbb : Below wa.heap.size wa wb := by rw [hwb]; exact (Below.refl _ _).alloc (Nat.le_refl _) _
 have hbc : Below wb.heap.size wb w1 := by rw [hw1]; exact (Below.refl _ _).alloc (Nat.le_refl _) _
 have hsa : wa.heap.size = w.heap.size + 1 := by rw [hwa]; simp
 have hsb : wb.heap.size = wa.heap.size + 1 := by rw [hwb]; simp
 have hsc : w1.heap.size = wb.heap.size + 1 := by rw [hw1]; simp
 have hb1 : Below w.heap.size w w1 := (hba.trans (hbb.mono (by omega))).trans (hbc.mono (by omega))
 have cT : w1.cell? ⟨w.heap.size, 0, none⟩ = some (.slice aF mF cF) := by
  have := heap_alloc_new w (.cells #[.slice aF mF cF] 76)
  rw [← hwa] at this
  exact below_cell (below_cell (cell_of_heap this 0) hbb (by omega)) hbc (by omega)
 obtain ⟨q0, q1, q2⟩ := box3 hwb
 have hG := heap_alloc_new wb (.cells #[.slice none 0 0] 46)
 rw [← hw1] at hG
 have hst1 : LpSt w1 w1.heap.size wb.heap.size w.heap.size wa.heap.size (.slice none 0 0) (.slice aF mF cF) S e [] :=
  ⟨hG, cT, below_cell q0 hbc (by omega), below_cell q1 hbc (by omega), below_cell q2 hbc (by omega), ⟨w.heap.size, by omega, h.below hb1⟩, ⟨by simp, none, 0, rfl, ⟨fun _ => rfl, by simp⟩, .inl rfl⟩, by omega, by omega, by omega, Nat.le_refl _⟩
 obtain ⟨E, hE⟩ := exq wa.heap.size
 obtain ⟨G, hGd⟩ := exq wb.heap.size
 obtain ⟨B, hB⟩ := exq w1.heap.size
 rw [← hE, ← hGd, ← hB] at hst1
 have hTG : w.heap.size ≠ G := by omega
 have hEe := hidI (show w.heap.size + 1 = E by omega)
 have hGe := hidI (show w.heap.size + 1 + 1 = G by omega)
 have hEG : E ≠ G := by omega
 have hwG : w.heap.size ≤ G := by omega
 have hwB : w.heap.size ≤ B := by omega
 have hw1' : w1 = ((w.alloc (.cells #[.slice aF mF cF] 76)).alloc (.cells #[.int .i64 e.1, .int .i64 e.2.1, .int .i64 e.2.2] 72)).alloc (.cells #[.slice none 0 0] 46) := by rw [hw1, hwb, hwa]
 obtain ⟨f, l, t⟩ := e
 obtain ⟨X, hX⟩ := exq (wdA S f)
 have hXl : X.length ≤ 40 := by rw [hX]; have := wdA_length hgood f; omega
 have hXin : InR (X ++ [l]) := InR.append (fun z hz => by rw [hX] at hz; have := wdA_in hgood f z hz; omega) (fun z hz => by rw [List.mem_singleton] at hz; rw [hz]; exact hin)
 obtain ⟨Z, hZ⟩ := exq (mulL (X ++ [l]) (invL (wdA S t)))
 rw [← hX, ← hZ]
 have hword : ∀ W0 : World, LpSt W0 B G w.heap.size E (.slice none 0 0) (.slice aF mF cF) S (f, l, t) [] → Calls Tryz.prog 97 #[.slice aF mF cF, .int .i64 f] W0 (IntsRetO W0 X) := fun W0 q => by
  rw [hX]; exact wordOf_any W0 s 0 _ S f q.read hgood hl40
 have hback : ∀ (W0 : World) (v : Value), LpSt W0 B G w.heap.size E (.slice none 0 0) (.slice aF mF cF) S (f, l, t) [] → OwnsI W0 B v (X ++ [l]) → Below w.heap.size w W0 → CallsD Tryz.prog 94 #[.pointer (some ⟨G, 0, none⟩), .pointer (some ⟨w.heap.size, 0, none⟩), .pointer (some ⟨E, 0, none⟩)] .returning (W0.setCell ⟨G, 0, none⟩ v) (BackRet (W0.setCell ⟨G, 0, none⟩ v) w.heap.size G Z .returning) := fun W0 v q ho hb => by
  rw [hZ]
  exact back_any _ .returning w.heap.size _ G w.heap.size E s v _ S (f, l, t) (X ++ [l]) (q.put ho (Nat.le_refl _) (by simp; omega) hTG hEG) hgood hl40 hXin (by simp; omega) hwG hTG hEG
 have hfinal : ∀ (W0 W1 : World) (v v' : Value), Below w.heap.size w W0 → Below w.heap.size (W0.setCell ⟨G, 0, none⟩ v) W1 → RowI W1 w.heap.size W1.heap.size v' Z → IntsRet w Z (.returned v') W1 := fun W0 W1 v v' h1 h2 h3 => ⟨v', rfl, h3, (h1.setCell (p := ⟨G, 0, none⟩) hwG v).trans h2⟩
 obtain ⟨wd, hwd⟩ := exq w1.drew
 have hbd : Below B w1 wd := by rw [hwd]; exact below_dn (Below.refl _ _) 1
 have hst : LpSt wd B G w.heap.size E (.slice none 0 0) (.slice aF mF cF) S (f, l, t) [] := hst1.below hbd
 have hbw := hidI (hb1.trans (hbd.mono hwB))
 obtain ⟨-, cT, cE0, cE1, cE2, -, -, -, -, -, -⟩ := id hst
 have hG2 := hst.row
 have hltB := hst.ltB
 simp only at cE0 cE1 cE2
 replace hst := hidI hst
 replace hX := hidI hX
 replace hZ := hidI hZ
 replace hXl := hidI hXl
 replace hXin := hidI hXin
 replace hword := hidI hword
 replace hback := hidI hback
 replace hfinal := hidI hfinal
 replace hgood := hidI hgood
 replace hmF := hidI hmF
 replace h := hidI h
 replace hwd := hidI hwd
 have hw1s := hidI hw1'.symm
 replace hw1' := hidI hw1'
 replace hsa := hidI hsa
 replace hsb := hidI hsb
 replace hsc := hidI hsc
 replace hE := hidI hE
 replace hGd := hidI hGd
 replace hB := hidI hB
 clear hst1 hbd hb1 hba hbb hbc q0 q1 q2 hG hw1 hwb hwa cE2 hG2
 go_enter_defers Tryz.func56, Tryz.ntmps56
 go_upto_region 1 with fail
 rw [hw1s.out, hGe.out, hEe.out]
 go_wp2
 refine wp_region_noPanic ?_
 refine hideQ (fun _ _ d _ _ h => by cases d <;> exact h) (fun Q' hnorm hpan => ?_)
 refine wp_region_held_drew (S := (fun W0 => W0.cell? ⟨w.heap.size, 0, none⟩ = some (.slice aF mF cF) ∧ W0.cell? ⟨E, 0, none⟩ = some (.int .i64 f) ∧ W0.cell? ⟨E, 1, none⟩ = some (.int .i64 l))) (by kernel_rfl) ?_ (fun hHeld => ?_)
 · try dsimp only
   rw [← hwd.out]; exact ⟨cT, cE0, cE1⟩
 rw [← hwd.out] at hHeld ⊢
 refine tk 0 6 ?_
 refine tk 1 7 ?_
 refine tk 2 8 ?_
 refine tk 4 10 ?_
 refine tk 5 11 ?_
 refine wpAnyH_ready (rs := [3, 6]) (by kernel_rfl) (by simp) ?_
 refine AllReadyH.cons rfl (fun K hK => ?_) ?_
 ·
  rw [if_pos (by first | rfl | kernel_rfl)]
  go_simp
  go_at_call 97
  (with_reducible refine (hword.out wd hst.out).mono ?_)
  rintro e w3 ⟨v3, rfl, ho3, hbn⟩
  have hlt3 := hbn.size
  have hB3 : B ≤ wd.heap.size := hst.out.ltB
  obtain ⟨a3, m3, c3, rfl⟩ := OwnsI.form4 ho3
  replace hst := hidI (hst.out.below (hbn.mono (by have := hst.out.ltB; omega)))
  replace hbw := hidI (hbw.out.trans (hbn.mono hbw.out.size))
  obtain ⟨-, cT, cE0, cE1, -, -, -, -, -, -, -⟩ := id hst.out
  simp only at cE0 cE1
  replace ho3 := hidI (ho3.mono hB3)
  clear hbn
  refine hK.out _ _ ?_ (fun hHeld => ?_)
  · try dsimp only
    first | ((repeat' apply And.intro) <;> assumption) | exact ⟨cT, cE0, cE1⟩
  clear hK
  try simp only [Act.put, lyA, lyB, lyC]
  refine rd 6 (fun K hK => ?_)
  rw [if_pos (by first | rfl | kernel_rfl)]
  go_simp
  obtain ⟨w6, hw6⟩ := exq (w3.alloc (.cells #[.int .i64 l] 3))
  have hbn : Below w3.heap.size w3 w6 := by rw [hw6]; exact (Below.refl _ _).alloc (Nat.le_refl _) _
  have hlt6 : w6.heap.size = w3.heap.size + 1 := by rw [hw6]; simp
  have hr6 := hidI (readI_one w3 l)
  rw [← hw6] at hr6
  rw [← hw6]
  replace hw6 := hidI hw6
  replace hst := hidI (hst.out.below (hbn.mono (by have := hst.out.ltB; omega)))
  replace hbw := hidI (hbw.out.trans (hbn.mono hbw.out.size))
  obtain ⟨-, cT, cE0, cE1, -, -, -, -, -, -, -⟩ := id hst.out
  simp only at cE0 cE1
  replace ho3 := hidI (ho3.out.keptB hbn)
  clear hbn
  refine hK.out _ _ ?_ (fun hHeld => ?_)
  · try dsimp only
    first | ((repeat' apply And.intro) <;> assumption) | exact ⟨cT, cE0, cE1⟩
  clear hK
  try simp only [Act.put, lyA, lyB, lyC]
  refine rd 7 (fun K hK => ?_)
  rw [if_pos (by first | rfl | kernel_rfl)]
  have hB7 : B ≤ w6.heap.size := hst.out.ltB
  refine step_pushAllI_at _ _ rfl B (.slice a3 m3 c3) _ X [l] (w3.heap.size + 1) rfl rfl ho3.out hr6.out (by have := hXl.out; simp; omega) hB7 ?_
  intro v7 w7 ho7 hg7 hat7
  obtain ⟨a7, m7, c7, rfl⟩ := OwnsI.form4 ho7
  have hbn : Below B w6 w7 := (Below.refl B w6).grown hg7 hB7 (fun q hq => (World.ownsRow.lt ho3.out q hq).1)
  replace hst := hidI (hst.out.below hbn)
  replace hbw := hidI (hbw.out.trans (hbn.mono hwB))
  obtain ⟨-, cT, cE0, cE1, -, -, -, -, -, -, -⟩ := id hst.out
  simp only at cE0 cE1
  have hcb := hidI (hback.out w7 _ hst.out ho7 hbw.out)
  have hG0 : w7.cell? ⟨G, 0, none⟩ = some (.slice none 0 0) := cell_of_heap hst.out.row 0
  have fG := fun j => frozen_of_row w7 G j _ _ hst.out.row
  have kT := (World.cell?_of_block (a := (⟨w.heap.size, 0, none⟩ : Addr)) (Below.heap_setCell w7 ⟨G, 0, none⟩ (.slice a7 m7 c7) w.heap.size hTG)).trans cT
  have kE0 := (World.cell?_of_block (a := (⟨E, 0, none⟩ : Addr)) (Below.heap_setCell w7 ⟨G, 0, none⟩ (.slice a7 m7 c7) E hEG)).trans cE0
  have kE1 := (World.cell?_of_block (a := (⟨E, 1, none⟩ : Addr)) (Below.heap_setCell w7 ⟨G, 0, none⟩ (.slice a7 m7 c7) E hEG)).trans cE1
  clear hbn hg7 hat7 ho7
  refine hK.out _ _ ?_ (fun hHeld => ?_)
  · try dsimp only
    first | ((repeat' apply And.intro) <;> assumption) | exact ⟨cT, cE0, cE1⟩
  clear hK
  try simp only [Act.put, lyA, lyB, lyC]
  refine rd 8 (fun K hK => ?_)
  rw [if_pos (by first | rfl | kernel_rfl)]
  go_simp
  replace cT := kT
  replace cE0 := kE0
  replace cE1 := kE1
  refine hK.out _ _ ?_ (fun hHeld => ?_)
  · try dsimp only
    first | ((repeat' apply And.intro) <;> assumption) | exact ⟨cT, cE0, cE1⟩
  clear hK
  try simp only [Act.put, lyA, lyB, lyC]
  refine wpAnyH_done (by kernel_rfl) ?_ _
  refine hnorm _ _ ?_
  clear hnorm hpan
  repeat clear hHeld
  refine NoPanic.normal ?_
  try simp only [Exit.then]
  clear hG0 fG kT kE0 kE1
  go_wp2
  refine leaves_cons (f := 94) (args := #[.pointer (some ⟨G, 0, none⟩), .pointer (some ⟨w.heap.size, 0, none⟩), .pointer (some ⟨E, 0, none⟩)]) (by simp) (by simp [go_sem]) ?_
  refine hcb.out.mono ?_
  rintro e u' w9 ⟨rfl, rfl, v9, hG9, hrow9, hb9⟩
  exact ⟨_, results_cell_one rfl _ _ rfl (cell_of_heap hG9 0) (Tryz.isAgg46 _), hfinal.out w7 w9 _ v9 hbw.out hb9 hrow9⟩
 refine AllReadyH.cons rfl (fun K hK => ?_) AllReadyH.nil
 rw [if_pos (by first | rfl | kernel_rfl)]
 go_simp
 obtain ⟨w6, hw6⟩ := exq (wd.alloc (.cells #[.int .i64 l] 3))
 have hbn : Below wd.heap.size wd w6 := by rw [hw6]; exact (Below.refl _ _).alloc (Nat.le_refl _) _
 have hlt6 : w6.heap.size = wd.heap.size + 1 := by rw [hw6]; simp
 have hr6 := hidI (readI_one wd l)
 rw [← hw6] at hr6
 rw [← hw6]
 replace hw6 := hidI hw6
 replace hst := hidI (hst.out.below (hbn.mono (by have := hst.out.ltB; omega)))
 replace hbw := hidI (hbw.out.trans (hbn.mono hbw.out.size))
 obtain ⟨-, cT, cE0, cE1, -, -, -, -, -, -, -⟩ := id hst.out
 simp only at cE0 cE1
 clear hbn
 refine hK.out _ _ ?_ (fun hHeld => ?_)
 · try dsimp only
   first | ((repeat' apply And.intro) <;> assumption) | exact ⟨cT, cE0, cE1⟩
 clear hK
 try simp only [Act.put, lyA, lyB, lyC]
 refine rd 3 (fun K hK => ?_)
 rw [if_pos (by first | rfl | kernel_rfl)]
 go_simp
 go_at_call 97
 (with_reducible refine (hword.out w6 hst.out).mono ?_)
 rintro e w3 ⟨v3, rfl, ho3, hbn⟩
 have hlt3 := hbn.size
 have hB3 : B ≤ w6.heap.size := hst.out.ltB
 obtain ⟨a3, m3, c3, rfl⟩ := OwnsI.form4 ho3
 replace hst := hidI (hst.out.below (hbn.mono (by have := hst.out.ltB; omega)))
 replace hbw := hidI (hbw.out.trans (hbn.mono hbw.out.size))
 obtain ⟨-, cT, cE0, cE1, -, -, -, -, -, -, -⟩ := id hst.out
 simp only at cE0 cE1
 replace ho3 := hidI (ho3.mono hB3)
 replace hr6 := hidI (hr6.out.below (hbn.mono (by omega)))
 clear hbn
 refine hK.out _ _ ?_ (fun hHeld => ?_)
 · try dsimp only
   first | ((repeat' apply And.intro) <;> assumption) | exact ⟨cT, cE0, cE1⟩
 clear hK
 try simp only [Act.put, lyA, lyB, lyC]
 refine rd 7 (fun K hK => ?_)
 rw [if_pos (by first | rfl | kernel_rfl)]
 have hB7 : B ≤ w3.heap.size := hst.out.ltB
 refine step_pushAllI_at _ _ rfl B (.slice a3 m3 c3) _ X [l] (wd.heap.size + 1) rfl rfl ho3.out hr6.out (by have := hXl.out; simp; omega) hB7 ?_
 intro v7 w7 ho7 hg7 hat7
 obtain ⟨a7, m7, c7, rfl⟩ := OwnsI.form4 ho7
 have hbn : Below B w3 w7 := (Below.refl B w3).grown hg7 hB7 (fun q hq => (World.ownsRow.lt ho3.out q hq).1)
 replace hst := hidI (hst.out.below hbn)
 replace hbw := hidI (hbw.out.trans (hbn.mono hwB))
 obtain ⟨-, cT, cE0, cE1, -, -, -, -, -, -, -⟩ := id hst.out
 simp only at cE0 cE1
 have hcb := hidI (hback.out w7 _ hst.out ho7 hbw.out)
 have hG0 : w7.cell? ⟨G, 0, none⟩ = some (.slice none 0 0) := cell_of_heap hst.out.row 0
 have fG := fun j => frozen_of_row w7 G j _ _ hst.out.row
 have kT := (World.cell?_of_block (a := (⟨w.heap.size, 0, none⟩ : Addr)) (Below.heap_setCell w7 ⟨G, 0, none⟩ (.slice a7 m7 c7) w.heap.size hTG)).trans cT
 have kE0 := (World.cell?_of_block (a := (⟨E, 0, none⟩ : Addr)) (Below.heap_setCell w7 ⟨G, 0, none⟩ (.slice a7 m7 c7) E hEG)).trans cE0
 have kE1 := (World.cell?_of_block (a := (⟨E, 1, none⟩ : Addr)) (Below.heap_setCell w7 ⟨G, 0, none⟩ (.slice a7 m7 c7) E hEG)).trans cE1
 clear hbn hg7 hat7 ho7
 refine hK.out _ _ ?_ (fun hHeld => ?_)
 · try dsimp only
   first | ((repeat' apply And.intro) <;> assumption) | exact ⟨cT, cE0, cE1⟩
 clear hK
 try simp only [Act.put, lyA, lyB, lyC]
 refine rd 8 (fun K hK => ?_)
 rw [if_pos (by first | rfl | kernel_rfl)]
 go_simp
 replace cT := kT
 replace cE0 := kE0
 replace cE1 := kE1
 refine hK.out _ _ ?_ (fun hHeld => ?_)
 · try dsimp only
   first | ((repeat' apply And.intro) <;> assumption) | exact ⟨cT, cE0, cE1⟩
 clear hK
 try simp only [Act.put, lyA, lyB, lyC]
 refine wpAnyH_done (by kernel_rfl) ?_ _
 refine hnorm _ _ ?_
 clear hnorm hpan
 repeat clear hHeld
 refine NoPanic.normal ?_
 try simp only [Exit.then]
 clear hG0 fG kT kE0 kE1
 go_wp2
 refine leaves_cons (f := 94) (args := #[.pointer (some ⟨G, 0, none⟩), .pointer (some ⟨w.heap.size, 0, none⟩), .pointer (some ⟨E, 0, none⟩)]) (by simp) (by simp [go_sem]) ?_
 refine hcb.out.mono ?_
 rintro e u' w9 ⟨rfl, rfl, v9, hG9, hrow9, hb9⟩
 exact ⟨_, results_cell_one rfl _ _ rfl (cell_of_heap hG9 0) (Tryz.isAgg46 _), hfinal.out w7 w9 _ v9 hbw.out hb9 hrow9⟩
end Go.Proofs.YtpjlamnjiilgbaaGreat
