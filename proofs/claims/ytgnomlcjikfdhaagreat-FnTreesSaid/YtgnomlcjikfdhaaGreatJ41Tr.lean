import Derived.ProofKit
import Derived.Deep.LoopGhost
import Derived.RegionTactic
import Derived.BigRegion
import Derived.Test.YtgnomlcjikfdhaaGreatJ40Tr
import Derived.Test.YtgnomlcjikfdhaaGreatJ1Tr
import Derived.Test.YtgnomlcjikfdhaaGreatJ5Tr
namespace Go.Proofs.YtgnomlcjikfdhaaGreat
open Go.RowKit
set_option linter.unusedVariables false
def Chain (w : World) (lo hi : Nat) : List Int → Value → Prop
 | [], v => v = .pointer none
 | x :: s, v => ∃ (b : Nat) (p : Value), v = .pointer (some ⟨b, 0, none⟩) ∧ lo ≤ b ∧ b < hi ∧ w.heap[b]? = some (.cells #[.int .i64 x, .int .i64 ((s.length : Int) + 1), p] 174 (0, 0)) ∧ Chain w lo hi s p
theorem Chain.mono {w : World} {lo hi hi' : Nat} (hh : hi ≤ hi') : ∀ {s : List Int} {v : Value}, Chain w lo hi s v → Chain w lo hi' s v := by
 intro s
 induction s with
 | nil => intro v h; exact h
 | cons x s ih =>
  intro v h
  obtain ⟨b, p, hv, h1, h2, h3, h4⟩ := h
  exact ⟨b, p, hv, h1, by omega, h3, ih h4⟩
theorem Chain.below {w w' : World} {lo hi B : Nat} (hb : Below B w w') (hB : hi ≤ B) : ∀ {s : List Int} {v : Value}, Chain w lo hi s v → Chain w' lo hi s v := by
 intro s
 induction s with
 | nil => intro v h; exact h
 | cons x s ih =>
  intro v h
  obtain ⟨b, p, hv, h1, h2, h3, h4⟩ := h
  exact ⟨b, p, hv, h1, h2, by rw [hb.block b (by omega)]; exact h3, ih h4⟩
def EndRet (w : World) (lo : Nat) (s : List Int) (e : Ending) (w' : World) : Prop := ∃ v, e = .returned v ∧ Chain w' lo w'.heap.size s v ∧ Below w.heap.size w w'
theorem endRet_new {w : World} {lo : Nat} {s : List Int} {x : Int} {v : Value} (hlo : lo ≤ w.heap.size) (h : Chain w lo w.heap.size s v) :
 EndRet w lo (x :: s) (.returned (.pointer (some ⟨w.heap.size, 0, none⟩))) (w.alloc (.cells #[.int .i64 x, .int .i64 ((s.length : Int) + 1), v] 174)) := by
 have hb := (Below.refl w.heap.size w).alloc (Nat.le_refl _) (.cells #[.int .i64 x, .int .i64 ((s.length : Int) + 1), v] 174)
 refine ⟨_, rfl, ⟨w.heap.size, v, rfl, hlo, by simp, heap_alloc_new w _, ?_⟩, hb⟩
 exact (h.below hb (Nat.le_refl _)).mono (by simp)
set_option maxHeartbeats 800000 in
theorem followedBy_any (w : World) (lo : Nat) (v : Value) (s : List Int) (x : Int) (hlo : lo ≤ w.heap.size) (h : Chain w lo w.heap.size s v) (hs : InR s) (hx : -9223372036854775808 ≤ x ∧ x ≤ 9223372036854775807) (hl : s.length ≤ 1000000000) :
 Calls Tryz.prog 153 #[v, .int .i64 x] w (EndRet w lo (push s x)) := by
 cases s with
 | nil =>
  have hnil : v = .pointer none := h
  subst hnil
  have hr : EndRet w lo (push [] x) (.returned (.pointer (some ⟨w.heap.size, 0, none⟩))) (w.alloc (.cells #[.int .i64 x, .int .i64 1, .pointer none] 174)) := endRet_new (s := []) hlo h
  replace h := hidI h
  replace hr := hidI hr
  go_enter Tryz.func153, Tryz.ntmps153
  go_wp2
  go_ret
  exact hr.out
 | cons y t =>
  have hch := h
  obtain ⟨b, p, rfl, h1, h2, h3, h4⟩ := h
  have c0 : w.cell? ⟨b, 0, none⟩ = some (.int .i64 y) := by simp [World.cell?, h3]
  have c1 : w.cell? ⟨b, 1, none⟩ = some (.int .i64 ((t.length : Int) + 1)) := by simp [World.cell?, h3]
  have c2 : w.cell? ⟨b, 2, none⟩ = some p := by simp [World.cell?, h3]
  have hy := hs.head
  obtain ⟨n, hn⟩ := exq t.length
  rw [List.length_cons, ← hn] at hl
  rw [← hn] at c1
  cases hi : inv y x with
  | true =>
   have hr : EndRet w lo (push (y :: t) x) (.returned p) w := ⟨p, rfl, by rw [push_yes hi]; exact h4, Below.refl _ _⟩
   have hcall := areInv w y x hy hx true hi
   replace hr := hidI hr
   replace hi := hidI hi
   replace hn := hidI hn
   clear h3 h4 hch hs
   go_enter Tryz.func153, Tryz.ntmps153
   go_wp2_with fail
   refine hcall.mono ?_
   rintro e w' ⟨rfl, rfl⟩
   go_wp2
   go_ret
   exact hr.out
  | false =>
   have hr : EndRet w lo (push (y :: t) x) (.returned (.pointer (some ⟨w.heap.size, 0, none⟩))) (w.alloc (.cells #[.int .i64 x, .int .i64 ((n : Int) + 1 + 1), .pointer (some ⟨b, 0, none⟩)] 174)) := by
    rw [push_no hi]
    have := endRet_new (x := x) hlo hch
    rw [List.length_cons, ← hn] at this
    exact this
   have hcall := areInv w y x hy hx false hi
   replace hr := hidI hr
   replace hi := hidI hi
   replace hn := hidI hn
   clear h3 h4 hch hs
   go_enter Tryz.func153, Tryz.ntmps153
   go_wp2_with fail
   refine hcall.mono ?_
   rintro e w' ⟨rfl, rfl⟩
   go_wp2
   go_ret
   exact hr.out
end Go.Proofs.YtgnomlcjikfdhaaGreat
namespace Go.Proofs.YtgnomlcjikfdhaaGreat
open Go.RowKit
set_option linter.unusedVariables false
def padR (s : List Int) (j : Nat) : List Int := List.replicate (s.length - j) 0 ++ (s.take j).reverse
theorem padR_length (s : List Int) (j : Nat) (h : j ≤ s.length) : (padR s j).length = s.length := by simp [padR]; omega
theorem padR_zero (s : List Int) : padR s 0 = List.replicate s.length 0 := by simp [padR]
theorem padR_full (s : List Int) : padR s s.length = s.reverse := by simp [padR]
theorem padR_step (s : List Int) (j : Nat) (h : j < s.length) : (padR s j).set (s.length - 1 - j) (s.getD j 0) = padR s (j + 1) := by
 have e : s.length - j = (s.length - (j + 1)) + 1 := by omega
 unfold padR
 rw [List.set_append_left _ _ (by rw [List.length_replicate]; omega), List.take_succ_eq_append_getElem h, List.reverse_append, e, List.replicate_succ', List.set_append_right _ _ (by rw [List.length_replicate]; omega)]
 have e2 : s.length - 1 - j - (s.length - (j + 1)) = 0 := by omega
 rw [List.length_replicate, e2]
 simp [List.getD_eq_getElem?_getD, h]
theorem Chain.next {w : World} {lo hi : Nat} {s : List Int} {v : Value} {j : Nat} (h : Chain w lo hi (s.drop j) v) (hj : j < s.length) :
 ∃ b p, v = .pointer (some ⟨b, 0, none⟩) ∧ lo ≤ b ∧ b < hi ∧ w.cell? ⟨b, 0, none⟩ = some (.int .i64 (s.getD j 0)) ∧ w.cell? ⟨b, 1, none⟩ = some (.int .i64 ((s.length : Int) - j)) ∧ w.cell? ⟨b, 2, none⟩ = some p ∧ Chain w lo hi (s.drop (j + 1)) p := by
 rw [List.drop_eq_getElem_cons hj] at h
 obtain ⟨b, p, hv, h1, h2, h3, h4⟩ := h
 have e : ((s.drop (j + 1)).length : Int) + 1 = (s.length : Int) - j := by rw [List.length_drop]; omega
 refine ⟨b, p, hv, h1, h2, ?_, ?_, ?_, h4⟩
 · simp [World.cell?, h3, List.getD_eq_getElem?_getD, hj]
 · rw [← e]; simp [World.cell?, h3]
 · simp [World.cell?, h3]
theorem Chain.end_ {w : World} {lo hi : Nat} {s : List Int} {v : Value} {j : Nat} (h : Chain w lo hi (s.drop j) v) (hj : s.length ≤ j) : v = .pointer none := by
 rw [List.drop_eq_nil_of_le hj] at h
 exact h
set_option maxHeartbeats 1600000 in
theorem letters_any (w : World) (lo : Nat) (v : Value) (s : List Int) (h : Chain w lo w.heap.size s v) (hl : s.length ≤ 1000000000) :
 Calls Tryz.prog 154 #[v] w (IntsRet w s.reverse) := by
 by_cases h0 : s.length = 0
 · have hn : s = [] := List.length_eq_zero_iff.1 h0
   subst hn
   have hnil : v = .pointer none := h
   subst hnil
   have hr : IntsRet w ([] : List Int).reverse (.returned (.slice none 0 0)) w := ⟨_, rfl, ⟨by simp, .inl ⟨rfl, rfl⟩⟩, Below.refl _ _⟩
   clear h h0 hl
   go_enter Tryz.func154, Tryz.ntmps154
   go_wp2
   go_ret
   exact hr
 · have hch : Chain w lo w.heap.size (s.drop 0) v := h
   obtain ⟨b0, p0, rfl, hb1, hb2, hc0, hc1, hc2, hnx⟩ := hch.next (j := 0) (by omega)
   obtain ⟨n, hn⟩ := exq s.length
   obtain ⟨i0, hi, hz0, hz1, hz2⟩ := info_parts infoInt
   rw [← hn] at hl hc1 h0
   have hc1' : w.cell? ⟨b0, 1, none⟩ = some (.int .i64 (n : Int)) := by simpa using hc1
   replace hn := hidI hn
   replace h := hidI h
   clear hc1 hnx hc0 hc2 hch
   go_enter Tryz.func154, Tryz.ntmps154
   go_wp2_with (at_make; go_must (refine wpList_make_full _ rfl _ _ 33 rfl w.heap.size 3 i0 (.int .i64 0) 1 Tryz.underlying33 hi hz0 hz1 .i64 .i64 _ _ n rfl rfl rfl rfl ?c1 ?c2 ?c3 ?_))
   case c1 => rw [hz2]; omega
   case c2 => unfold maxLen; omega
   case c3 => exact Nat.le_refl _
   intro w1 hown hg
   rw [made_ints] at hown
   have hb := (Below.refl w.heap.size w).grown hg (Nat.le_refl _) (by intro k hk; cases hk)
   have hstart := hidI (h.out.below hb (Nat.le_refl _))
   clear hg hi hz0 hz1 hz2
   replace hown := hidI hown
   go_wp2
   go_loopg [0] n (fun k p wr => ∃ j : Nat, j + k = n ∧ Chain wr lo w.heap.size (s.drop j) p ∧ wr.ownsRow w.heap.size 3 1 (.slice (some ⟨w.heap.size, 0, none⟩) n n) n ((padR s j).map iv) ∧ Below w.heap.size w wr)
   case atStart => exact ⟨0, by omega, hstart.out, by rw [padR_zero, ← hn.out]; exact hown.out, hb⟩
   case round =>
    clear hown hb hstart hc1'
    obtain ⟨j, hj, hch, hown, hb⟩ := hrel
    by_cases hlt : j < n
    · obtain ⟨b, p, rfl, hl1, hl2, hx0, hx1, hx2, hnx⟩ := hch.next (j := j) (by have := hn.out; omega)
      obtain ⟨z, hz⟩ := exq (s.getD j 0)
      obtain ⟨i, hi⟩ : ∃ i, n = j + 1 + i := ⟨n - (j + 1), by omega⟩
      rw [← hz] at hx0
      have hx1' : wr.cell? ⟨b, 1, none⟩ = some (.int .i64 ((i : Int) + 1)) := by
       rw [hx1]
       have := hn.out
       congr 2
       omega
      have hold : ∃ v, wr.cell? ⟨w.heap.size, i, none⟩ = some v := by
       have hnl := hn.out
       rw [hown.cellAt _ (by omega)]
       exact ⟨_, List.getElem?_eq_getElem (by rw [List.length_map, padR_length _ _ (by omega)]; omega)⟩
      obtain ⟨v, hold⟩ := hold
      have hfr := hown.frozenAt i
      have hst := (hown.stored i (iv z)).1
      have hpi : s.length - 1 - j = i := by have := hn.out; omega
      rw [← List.map_set, hz, ← hpi, padR_step s j (by have := hn.out; omega), ← hz, hpi] at hst
      have hin : (i : Int) < (n : Int) := by omega
      have hbn : ¬ b = w.heap.size := by omega
      have hbb := (hb.setCell (p := ⟨w.heap.size, i, none⟩) (Nat.le_refl _) (iv z)).drew
      have hnx2 : Chain (wr.setCell ⟨w.heap.size, i, none⟩ (iv z)).drew lo w.heap.size (s.drop (j + 1)) p := hnx.below ((Below.refl w.heap.size wr).setCell (p := ⟨w.heap.size, i, none⟩) (Nat.le_refl _) (iv z)).drew (Nat.le_refl _)
      replace hst := hidI hst
      replace hnx2 := hidI hnx2
      replace hz := hidI hz
      replace hown := hidI hown
      replace hi := hidI hi
      replace hj := hidI hj
      clear hch hnx hx1 hpi
      go_wp2
      go_region
      have hx2' : ((wr.setCell ⟨w.heap.size, i, none⟩ (iv z)).drew).cell? ⟨b, 2, none⟩ = some p := by
       rw [World.cell?_drew, World.cell?_setCell_other _ _ _ _ (by simp only [ne_eq, Addr.mk.injEq]; omega)]
       exact hx2
      go_wp2
      go_roundg i
      case rel => exact ⟨j + 1, by have := hi.out; omega, hnx2.out, hst.out, hbb⟩
      case measure => have := hj.out; have := hi.out; omega
    · have hjn : j = n := by omega
      subst hjn
      have hnil := hch.end_ (by have := hn.out; omega)
      subst hnil
      have hrow : RowI wr w.heap.size wr.heap.size (.slice (some ⟨w.heap.size, 0, none⟩) j j) s.reverse := by
       have hnl := hn.out
       refine RowI.of_owns ?_ (by rw [List.length_reverse]; omega)
       rw [List.length_reverse, ← hnl]
       have := hown
       rw [hnl, padR_full, ← hnl] at this
       exact this
      replace hrow := hidI hrow
      replace hown := hidI hown
      clear hch
      go_wp2
      go_ret
      exact ⟨_, rfl, hrow.out, hb⟩
end Go.Proofs.YtgnomlcjikfdhaaGreat
namespace Go.Proofs.YtgnomlcjikfdhaaGreat
open Go.RowKit
set_option linter.unusedVariables false
set_option linter.unusedSimpArgs false
def ReadLL (B : Nat) (w : World) (v : Value) (zss : List (List Int)) : Prop :=
 zss.length ≤ 140737488355328 ∧ ∃ a cap, v = .slice a zss.length cap ∧ (zss = [] ∨ ∃ b off, a = some ⟨b, off, none⟩ ∧ b < B ∧ ∀ i, i < zss.length → ∃ vi, w.cell? ⟨b, off + i, none⟩ = some vi ∧ ReadI B w vi (zss.getD i []))
theorem ReadLL.below {B : Nat} {w w' : World} {v : Value} {zss : List (List Int)} (h : ReadLL B w v zss) (hb : Below B w w') : ReadLL B w' v zss := by
 obtain ⟨hl, a, cap, hv, hc⟩ := h
 refine ⟨hl, a, cap, hv, hc.imp id ?_⟩
 rintro ⟨b, off, ha, hB, hcell⟩
 refine ⟨b, off, ha, hB, fun i hi => ?_⟩
 obtain ⟨vi, h1, h2⟩ := hcell i hi
 exact ⟨vi, by rw [hb.cell (p := ⟨b, off + i, none⟩) hB]; exact h1, h2.below hb⟩
theorem ReadLL.at_ {B : Nat} {w : World} {a : Option Addr} {n cap : Nat} {zss : List (List Int)} (h : ReadLL B w (.slice a n cap) zss) (i : Nat) (hi : i < zss.length) :
 ∃ b off vi, a = some ⟨b, off, none⟩ ∧ b < B ∧ w.cell? ⟨b, off + i, none⟩ = some vi ∧ ReadI B w vi (zss.getD i []) := by
 obtain ⟨_, a', cap', hv, hr⟩ := h
 simp only [Value.slice.injEq] at hv
 obtain ⟨rfl, _, rfl⟩ := hv
 rcases hr with h0 | ⟨b, off, ha, hB, hc⟩
 · rw [h0] at hi; simp at hi
 · obtain ⟨vi, h1, h2⟩ := hc i hi
   exact ⟨b, off, vi, ha, hB, h1, h2⟩
theorem getD_lists {zss : List (List Int)} {i : Nat} (h : i < zss.length) : zss.getD i [] = zss[i] := by rw [List.getD_eq_getElem?_getD, List.getElem?_eq_getElem h]; rfl
theorem take_flat {zss : List (List Int)} {k : Nat} (h : k < zss.length) : (zss.take (k + 1)).flatten = (zss.take k).flatten ++ zss.getD k [] := by
 rw [List.take_succ_eq_append_getElem h, List.flatten_append, getD_lists h]; simp
theorem take_flat_le (zss : List (List Int)) (k : Nat) : (zss.take k).flatten.length ≤ zss.flatten.length := by
 have : zss.flatten = (zss.take k).flatten ++ (zss.drop k).flatten := by rw [← List.flatten_append, List.take_append_drop]
 rw [this, List.length_append]; omega
end Go.Proofs.YtgnomlcjikfdhaaGreat
namespace Go.Proofs.YtgnomlcjikfdhaaGreat
open Go.RowKit
set_option linter.unusedVariables false
theorem InR.take_flat {zss : List (List Int)} (h : InR zss.flatten) (k : Nat) : InR (zss.take k).flatten := by
 have : zss.flatten = (zss.take k).flatten ++ (zss.drop k).flatten := by rw [← List.flatten_append, List.take_append_drop]
 rw [this] at h
 exact h.left
theorem InR.at_flat {zss : List (List Int)} (h : InR zss.flatten) {k : Nat} (hk : k < zss.length) : InR (zss.getD k []) := by
 rw [getD_lists hk]
 exact fun x hx => h x (List.mem_flatten.2 ⟨_, List.getElem_mem hk, hx⟩)
theorem stk_take {s zs : List Int} {j : Nat} (h : j < zs.length) : stk s (zs.take (j + 1)) = push (stk s (zs.take j)) (zs.getD j 0) := by
 rw [List.take_succ_eq_append_getElem h, stk_snoc]
 simp [List.getD_eq_getElem?_getD, h]
set_option maxHeartbeats 1600000 in
theorem multiplyAll_any (w : World) (v : Value) (zss : List (List Int)) (h : ReadLL w.heap.size w v zss) (hin : InR zss.flatten) (hl : zss.flatten.length ≤ 1000000000) :
 Calls Tryz.prog 127 #[v] w (IntsRet w (redL zss.flatten)) := by
 have hread := h
 obtain ⟨hml, a, cap, rfl, hq⟩ := h
 clear hq
 obtain ⟨m, hm⟩ := exq zss.length
 rw [← hm] at hml hread ⊢
 replace hm := hidI hm
 replace hread := hidI hread
 go_enter Tryz.func127, Tryz.ntmps127
 go_wp2
 go_loopg [3, 10] m (fun g v i wr => ∃ k : Nat, k + g = m ∧ i = .int .i64 k ∧ Chain wr w.heap.size wr.heap.size (stk [] (zss.take k).flatten) v ∧ Below w.heap.size w wr)
 case atStart => exact ⟨0, by omega, rfl, rfl, Below.refl _ _⟩
 case round =>
  obtain ⟨k, hk, rfl, hch, hb⟩ := hrel
  by_cases hlt : k < m
  · obtain ⟨b, off, vi, rfl, hB, hcell0, hri⟩ := hread.out.at_ k (by have := hm.out; omega)
    have hcell : wr.cell? ⟨b, off + k, none⟩ = some vi := by rw [hb.cell (p := ⟨b, off + k, none⟩) hB]; exact hcell0
    clear hcell0
    have hzin := hin.at_flat (k := k) (by have := hm.out; omega)
    have hstep := take_flat (zss := zss) (k := k) (by have := hm.out; omega)
    have hpin := hin.take_flat k
    have hlen := take_flat_le zss (k + 1)
    rw [hstep, List.length_append] at hlen
    obtain ⟨z, hz⟩ := exq (zss.getD k [])
    rw [← hz] at hri hzin hstep hlen
    obtain ⟨s0, hs0⟩ := exq (stk [] (zss.take k).flatten)
    have hs0in : InR s0 := by rw [hs0]; exact stk_in InR.nil hpin
    have hs0l : s0.length ≤ (zss.take k).flatten.length := by
     rw [hs0]
     have := stk_length (zss.take k).flatten []
     rwa [List.length_nil, Nat.zero_add] at this
    have hnext : stk [] (zss.take (k + 1)).flatten = stk s0 z := by rw [hstep, stk_append, hs0]
    rw [← hs0] at hch
    have hbound : s0.length + z.length ≤ 1000000000 := by omega
    have hri2 := hri
    obtain ⟨hzl, a2, cap2, rfl, hq1, hq2⟩ := hri
    obtain ⟨n, hn⟩ := exq z.length
    rw [← hn] at hzl hri2 hbound hcell
    have hk2 : (k : Int) < (m : Int) := by omega
    clear hq1 hq2 hstep hpin hs0l hlen
    replace hz := hidI hz
    replace hs0 := hidI hs0
    replace hn := hidI hn
    replace hri2 := hidI hri2
    replace hnext := hidI hnext
    replace hk := hidI hk
    replace hch := hidI hch
    replace hm := hidI hm
    go_wp2
    obtain ⟨wo, hwo⟩ : ∃ wo : World, wo = wr := ⟨_, rfl⟩
    rw [← hwo] at hcell hb hch ⊢
    clear hwo
    go_loopg [3, 16] n (fun g v i wx => ∃ j : Nat, j + g = n ∧ i = .int .i64 j ∧ Chain wx w.heap.size wx.heap.size (stk s0 (z.take j)) v ∧ Below w.heap.size w wx)
    case atStart => exact ⟨0, by omega, rfl, hch.out, hb⟩
    case round =>
     obtain ⟨j, hj, rfl, hci, hbi⟩ := hrel
     by_cases hlj : j < n
     · obtain ⟨b2, off2, rfl, hB2, hcell2⟩ := (hri2.out.below hbi).at_ j (by have := hn.out; omega)
       have hzj := hzin.getD j (by have := hn.out; omega)
       have hsj := stk_take (s := s0) (zs := z) (j := j) (by have := hn.out; omega)
       have hcin : InR (stk s0 (z.take j)) := stk_in hs0in (hzin.take j)
       have hcl : (stk s0 (z.take j)).length ≤ 1000000000 := by
        have := stk_length (z.take j) s0
        rw [List.length_take] at this
        omega
       obtain ⟨x, hx⟩ := exq (z.getD j 0)
       rw [← hx] at hcell2 hzj hsj
       have hlj2 : (j : Int) < (n : Int) := by omega
       have hcall := followedBy_any wr w.heap.size _ _ x hbi.size hci hcin hzj hcl
       replace hx := hidI hx
       replace hsj := hidI hsj
       replace hj := hidI hj
       clear hcell hci hcin hcl hzj
       go_wp2_with fail
       refine hcall.mono ?_
       rintro e w1 ⟨v1, rfl, hch1, hb1⟩
       have hbn := hbi.trans (hb1.mono hbi.size)
       replace hch1 := hidI hch1
       clear hb1 hcall
       go_wp2
       go_roundg (n - (j + 1))
       case rel => exact ⟨j + 1, by have := hj.out; omega, by go_num, by rw [hsj.out]; exact hch1.out, hbn⟩
       case measure => have := hj.out; omega
     · obtain rfl : j = n := by omega
       have hfz : z.take j = z := List.take_of_length_le (by have := hn.out; omega)
       rw [hfz, ← hnext.out] at hci
       replace hfz := hidI hfz
       replace hj := hidI hj
       replace hci := hidI hci
       go_wp2
       go_roundg (m - (k + 1))
       case rel => exact ⟨k + 1, by have := hk.out; omega, by go_num, hci.out, hbi⟩
       case measure => have := hk.out; omega
  · obtain rfl : k = m := by omega
    have hfull : (zss.take k).flatten = zss.flatten := by rw [List.take_of_length_le (by have := hm.out; omega)]
    rw [hfull] at hch
    have hll := stk_length zss.flatten []
    have hcall := letters_any wr w.heap.size _ _ hch (by rw [List.length_nil, Nat.zero_add] at hll; omega)
    rw [← redL_stk hin] at hcall
    replace hfull := hidI hfull
    replace hk := hidI hk
    clear hll hch
    go_wp2_with fail
    refine hcall.mono ?_
    rintro e w1 ⟨v1, rfl, hrow, hb1⟩
    have hs := hb.size
    have hr : IntsRet w (redL zss.flatten) (.returned v1) w1 := ⟨v1, rfl, hrow.wide hs (Nat.le_refl _), hb.trans (hb1.mono hs)⟩
    replace hr := hidI hr
    clear hrow hb1 hb
    go_wp2
    go_ret
    exact hr.out
end Go.Proofs.YtgnomlcjikfdhaaGreat
