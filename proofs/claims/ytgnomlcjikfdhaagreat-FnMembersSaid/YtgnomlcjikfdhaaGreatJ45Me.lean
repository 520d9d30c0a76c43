import Derived.Deep.LoopGhost
import Derived.RegionTactic
import Derived.BigRegion
import Derived.Test.YtgnomlcjikfdhaaGreatJ44Me
import Derived.Test.YtgnomlcjikfdhaaGreatJ37Me
namespace Go.Proofs.YtgnomlcjikfdhaaGreat
open Go.RowKit
set_option linter.unusedVariables false
def qo (s : List Int) (j : Nat) : List Int := List.replicate (s.length - j) 0 ++ (s.take j).reverse
theorem CV (s : List Int) (j : Nat) (h : j ≤ s.length) : (qo s j).length = s.length := by simp [qo]; omega
theorem Gl (s : List Int) : qo s 0 = List.replicate s.length 0 := by simp [qo]
theorem GZ (s : List Int) : qo s s.length = s.reverse := by simp [qo]
theorem Ib (s : List Int) (j : Nat) (h : j < s.length) : (qo s j).set (s.length - 1 - j) (s.getD j 0) = qo s (j + 1) := by
 have e : s.length - j = (s.length - (j + 1)) + 1 := by omega
 unfold qo; rw [List.set_append_left _ _ (by rw [List.length_replicate]; omega), List.take_succ_eq_append_getElem h, List.reverse_append, e, List.replicate_succ', List.set_append_right _ _ (by rw [List.length_replicate]; omega)]
 have e2 : s.length - 1 - j - (s.length - (j + 1)) = 0 := by omega
 rw [List.length_replicate, e2]; simp [List.getD_eq_getElem?_getD, h]
theorem Chain.next {w : World} {lo hi : Nat} {s : List Int} {v : Value} {j : Nat} (h : Chain w lo hi (s.drop j) v) (hj : j < s.length) :
 ∃ b p, v = .pointer (some ⟨b, 0, none⟩) ∧ lo ≤ b ∧ b < hi ∧ w.cell? ⟨b, 0, none⟩ = some (.int .i64 (s.getD j 0)) ∧ w.cell? ⟨b, 1, none⟩ = some (.int .i64 ((s.length : Int) - j)) ∧ w.cell? ⟨b, 2, none⟩ = some p ∧ Chain w lo hi (s.drop (j + 1)) p := by
 rw [List.drop_eq_getElem_cons hj] at h; obtain ⟨b, p, hv, h1, h2, h3, h4⟩ := h; have e : ((s.drop (j + 1)).length : Int) + 1 = (s.length : Int) - j := by rw [List.length_drop]; omega
 refine ⟨b, p, hv, h1, h2, ?_, ?_, ?_, h4⟩
 · simp [World.cell?, h3, List.getD_eq_getElem?_getD, hj]
 · rw [← e]; simp [World.cell?, h3]
 · simp [World.cell?, h3]
theorem Chain.end_ {w : World} {lo hi : Nat} {s : List Int} {v : Value} {j : Nat} (h : Chain w lo hi (s.drop j) v) (hj : s.length ≤ j) : v = .pointer none := by
 rw [List.drop_eq_nil_of_le hj] at h; exact h
set_option maxHeartbeats 1600000 in
theorem CO (w : World) (lo : Nat) (v : Value) (s : List Int) (h : Chain w lo w.heap.size s v) (hl : s.length ≤ 1000000000) :
 Calls Tryz.prog 154 #[v] w (bW w s.reverse) := by
 by_cases h0 : s.length = 0
 · have hn : s = [] := List.length_eq_zero_iff.1 h0
   subst hn; have hnil : v = .pointer none := h; subst hnil; have hr : bW w ([] : List Int).reverse (.returned (.slice none 0 0)) w := ⟨_, rfl, ⟨by simp, .inl ⟨rfl, rfl⟩⟩, Below.refl _ _⟩
   clear h h0 hl; go_enter Tryz.func154, Tryz.ntmps154
   go_wp2; go_ret; exact hr
 · have hch : Chain w lo w.heap.size (s.drop 0) v := h
   obtain ⟨b0, p0, rfl, hb1, hb2, hc0, hc1, hc2, hnx⟩ := hch.next (j := 0) (by omega)
   obtain ⟨n, hn⟩ := ag s.length; obtain ⟨i0, hi, hz0, hz1, hz2⟩ := info_parts jK; rw [← hn] at hl hc1 h0; have hc1' : w.cell? ⟨b0, 1, none⟩ = some (.int .i64 (n : Int)) := by simpa using hc1
   replace hn := ae hn; replace h := ae h; clear hc1 hnx hc0 hc2 hch; go_enter Tryz.func154, Tryz.ntmps154
   go_wp2_with (at_make; go_must (refine wpList_make_full _ rfl _ _ 33 rfl w.heap.size 3 i0 (.int .i64 0) 1 Tryz.underlying33 hi hz0 hz1 .i64 .i64 _ _ n rfl rfl rfl rfl ?c1 ?c2 ?c3 ?_))
   case c1 => rw [hz2]; omega
   case c2 => unfold maxLen; omega
   case c3 => exact nl _
   intro w1 hown hg; rw [yY] at hown; have hb := (Below.refl w.heap.size w).grown hg (nl _) (by intro k hk; cases hk)
   have hstart := ae (h.out.below hb (nl _)); clear hg hi hz0 hz1 hz2; replace hown := ae hown; go_wp2
   go_loopg [0] n (fun k p wr => ∃ j : Nat, j + k = n ∧ Chain wr lo w.heap.size (s.drop j) p ∧ wr.ownsRow w.heap.size 3 1 (.slice (some ⟨w.heap.size, 0, none⟩) n n) n ((qo s j).map iv) ∧ Below w.heap.size w wr)
   case atStart => exact ⟨0, by omega, hstart.out, by rw [Gl, ← hn.out]; exact hown.out, hb⟩
   case round =>
    clear hown hb hstart hc1'; obtain ⟨j, hj, hch, hown, hb⟩ := hrel; by_cases hlt : j < n
    · obtain ⟨b, p, rfl, hl1, hl2, hx0, hx1, hx2, hnx⟩ := hch.next (j := j) (by have := hn.out; omega)
      obtain ⟨z, hz⟩ := ag (s.getD j 0); obtain ⟨i, hi⟩ : ∃ i, n = j + 1 + i := ⟨n - (j + 1), by omega⟩
      rw [← hz] at hx0; have hx1' : wr.cell? ⟨b, 1, none⟩ = some (.int .i64 ((i : Int) + 1)) := by
       rw [hx1]; have := hn.out; congr 2
       omega
      have hold : ∃ v, wr.cell? ⟨w.heap.size, i, none⟩ = some v := by
       have hnl := hn.out; rw [hown.cellAt _ (by omega)]
       exact ⟨_, gE (by rw [List.length_map, CV _ _ (by omega)]; omega)⟩
      obtain ⟨v, hold⟩ := hold; have hfr := hown.frozenAt i; have hst := (hown.stored i (iv z)).1; have hpi : s.length - 1 - j = i := by have := hn.out; omega
      rw [← List.map_set, hz, ← hpi, Ib s j (by have := hn.out; omega), ← hz, hpi] at hst
      have hin : (i : Int) < (n : Int) := by omega
      have hbn : ¬ b = w.heap.size := by omega
      have hbb := (hb.setCell (p := ⟨w.heap.size, i, none⟩) (nl _) (iv z)).drew; have hnx2 : Chain (wr.setCell ⟨w.heap.size, i, none⟩ (iv z)).drew lo w.heap.size (s.drop (j + 1)) p := hnx.below ((Below.refl w.heap.size wr).setCell (p := ⟨w.heap.size, i, none⟩) (nl _) (iv z)).drew (nl _); replace hst := ae hst; replace hnx2 := ae hnx2; replace hz := ae hz; replace hown := ae hown; replace hi := ae hi
      replace hj := ae hj; clear hch hnx hx1 hpi; go_wp2; go_region
      have hx2' : ((wr.setCell ⟨w.heap.size, i, none⟩ (iv z)).drew).cell? ⟨b, 2, none⟩ = some p := by
       rw [World.cell?_drew, World.cell?_setCell_other _ _ _ _ (by simp only [ne_eq, Addr.mk.injEq]; omega)]
       exact hx2
      go_wp2; go_roundg i
      case rel => exact ⟨j + 1, by have := hi.out; omega, hnx2.out, hst.out, hbb⟩
      case measure => have := hj.out; have := hi.out; omega
    · have hjn : j = n := by omega
      subst hjn; have hnil := hch.end_ (by have := hn.out; omega)
      subst hnil; have hrow : bg wr w.heap.size wr.heap.size (.slice (some ⟨w.heap.size, 0, none⟩) j j) s.reverse := by
       have hnl := hn.out; refine bg.of_owns ?_ (by rw [List.length_reverse]; omega)
       rw [List.length_reverse, ← hnl]; have := hown; rw [hnl, GZ, ← hnl] at this; exact this
      replace hrow := ae hrow; replace hown := ae hown; clear hch; go_wp2; go_ret; exact ⟨_, rfl, hrow.out, hb⟩
end Go.Proofs.YtgnomlcjikfdhaaGreat
namespace Go.Proofs.YtgnomlcjikfdhaaGreat
open Go.RowKit
set_option linter.unusedVariables false
theorem bi.take_flat {zss : List (List Int)} (h : bi zss.flatten) (k : Nat) : bi (zss.take k).flatten := by
 have : zss.flatten = (zss.take k).flatten ++ (zss.drop k).flatten := by rw [← List.flatten_append, List.take_append_drop]
 rw [this] at h; exact h.left
theorem bi.at_flat {zss : List (List Int)} (h : bi zss.flatten) {k : Nat} (hk : k < zss.length) : bi (zss.getD k []) := by
 rw [yj hk]; exact fun x hx => h x (List.mem_flatten.2 ⟨_, List.getElem_mem hk, hx⟩)
theorem Iz {s zs : List Int} {j : Nat} (h : j < zs.length) : stk s (zs.take (j + 1)) = push (stk s (zs.take j)) (zs.getD j 0) := by
 rw [List.take_succ_eq_append_getElem h, mW]; simp [List.getD_eq_getElem?_getD, h]
set_option maxHeartbeats 1600000 in
theorem x9 (w : World) (v : Value) (zss : List (List Int)) (h : nK w.heap.size w v zss) (hin : bi zss.flatten) (hl : zss.flatten.length ≤ 1000000000) :
 Calls Tryz.prog 127 #[v] w (bW w (bK zss.flatten)) := by
 have hread := h; obtain ⟨hml, a, cap, rfl, hq⟩ := h; clear hq; obtain ⟨m, hm⟩ := ag zss.length; rw [← hm] at hml hread ⊢; replace hm := ae hm; replace hread := ae hread; go_enter Tryz.func127, Tryz.ntmps127
 go_wp2
 go_loopg [3, 10] m (fun g v i wr => ∃ k : Nat, k + g = m ∧ i = .int .i64 k ∧ Chain wr w.heap.size wr.heap.size (stk [] (zss.take k).flatten) v ∧ Below w.heap.size w wr)
 case atStart => exact ⟨0, by omega, rfl, rfl, Below.refl _ _⟩
 case round =>
  obtain ⟨k, hk, rfl, hch, hb⟩ := hrel; by_cases hlt : k < m
  · obtain ⟨b, off, vi, rfl, hB, hcell0, hri⟩ := hread.out.at_ k (by have := hm.out; omega)
    have hcell : wr.cell? ⟨b, off + k, none⟩ = some vi := by rw [hb.cell (p := ⟨b, off + k, none⟩) hB]; exact hcell0
    clear hcell0; have hzin := hin.at_flat (k := k) (by have := hm.out; omega)
    have hstep := take_flat (zss := zss) (k := k) (by have := hm.out; omega)
    have hpin := hin.take_flat k; have hlen := Ba zss (k + 1); rw [hstep, List.length_append] at hlen; obtain ⟨z, hz⟩ := ag (zss.getD k []); rw [← hz] at hri hzin hstep hlen; obtain ⟨s0, hs0⟩ := ag (stk [] (zss.take k).flatten); have hs0in : bi s0 := by rw [hs0]; exact uu bi.nil hpin
    have hs0l : s0.length ≤ (zss.take k).flatten.length := by
     rw [hs0]; have := rH (zss.take k).flatten []; rwa [List.length_nil, Nat.zero_add] at this
    have hnext : stk [] (zss.take (k + 1)).flatten = stk s0 z := by rw [hstep, iO, hs0]
    rw [← hs0] at hch; have hbound : s0.length + z.length ≤ 1000000000 := by omega
    have hri2 := hri; obtain ⟨hzl, a2, cap2, rfl, hq1, hq2⟩ := hri; obtain ⟨n, hn⟩ := ag z.length; rw [← hn] at hzl hri2 hbound hcell; have hk2 : (k : Int) < (m : Int) := by omega
    clear hq1 hq2 hstep hpin hs0l hlen; replace hz := ae hz; replace hs0 := ae hs0; replace hn := ae hn; replace hri2 := ae hri2; replace hnext := ae hnext; replace hk := ae hk; replace hch := ae hch; replace hm := ae hm; go_wp2; obtain ⟨wo, hwo⟩ : ∃ wo : World, wo = wr := ⟨_, rfl⟩; rw [← hwo] at hcell hb hch ⊢; clear hwo
    go_loopg [3, 16] n (fun g v i wx => ∃ j : Nat, j + g = n ∧ i = .int .i64 j ∧ Chain wx w.heap.size wx.heap.size (stk s0 (z.take j)) v ∧ Below w.heap.size w wx)
    case atStart => exact ⟨0, by omega, rfl, hch.out, hb⟩
    case round =>
     obtain ⟨j, hj, rfl, hci, hbi⟩ := hrel; by_cases hlj : j < n
     · obtain ⟨b2, off2, rfl, hB2, hcell2⟩ := (hri2.out.below hbi).at_ j (by have := hn.out; omega)
       have hzj := hzin.getD j (by have := hn.out; omega)
       have hsj := Iz (s := s0) (zs := z) (j := j) (by have := hn.out; omega)
       have hcin : bi (stk s0 (z.take j)) := uu hs0in (hzin.take j); have hcl : (stk s0 (z.take j)).length ≤ 1000000000 := by
        have := rH (z.take j) s0; rw [List.length_take] at this; omega
       obtain ⟨x, hx⟩ := ag (z.getD j 0); rw [← hx] at hcell2 hzj hsj; have hlj2 : (j : Int) < (n : Int) := by omega
       have hcall := yx wr w.heap.size _ _ x hbi.size hci hcin hzj hcl; replace hx := ae hx; replace hsj := ae hsj; replace hj := ae hj; clear hcell hci hcin hcl hzj; go_wp2_with fail; refine hcall.mono ?_; rintro e w1 ⟨v1, rfl, hch1, hb1⟩; have hbn := hbi.trans (hb1.mono hbi.size); replace hch1 := ae hch1; clear hb1 hcall; go_wp2; go_roundg (n - (j + 1))
       case rel => exact ⟨j + 1, by have := hj.out; omega, by go_num, by rw [hsj.out]; exact hch1.out, hbn⟩
       case measure => have := hj.out; omega
     · obtain rfl : j = n := by omega
       have hfz : z.take j = z := List.take_of_length_le (by have := hn.out; omega)
       rw [hfz, ← hnext.out] at hci; replace hfz := ae hfz; replace hj := ae hj; replace hci := ae hci; go_wp2; go_roundg (m - (k + 1))
       case rel => exact ⟨k + 1, by have := hk.out; omega, by go_num, hci.out, hbi⟩
       case measure => have := hk.out; omega
  · obtain rfl : k = m := by omega
    have hfull : (zss.take k).flatten = zss.flatten := by rw [List.take_of_length_le (by have := hm.out; omega)]
    rw [hfull] at hch; have hll := rH zss.flatten []; have hcall := CO wr w.heap.size _ _ hch (by rw [List.length_nil, Nat.zero_add] at hll; omega)
    rw [← gW hin] at hcall; replace hfull := ae hfull; replace hk := ae hk; clear hll hch; go_wp2_with fail; refine hcall.mono ?_; rintro e w1 ⟨v1, rfl, hrow, hb1⟩; have hs := hb.size; have hr : bW w (bK zss.flatten) (.returned v1) w1 := ⟨v1, rfl, hrow.wide hs (nl _), hb.trans (hb1.mono hs)⟩; replace hr := ae hr; clear hrow hb1 hb; go_wp2; go_ret; exact hr.out
end Go.Proofs.YtgnomlcjikfdhaaGreat
namespace Go.Proofs.YtgnomlcjikfdhaaGreat
open Go.RowKit
set_option linter.unusedVariables false
theorem E5 {w : World} {vs : List Value} {zss : List (List Int)} (C : Array Value) (hC : C = vs.toArray) (hl : vs.length = zss.length) (hlen : zss.length ≤ 1000) (hr : ∀ i, i < zss.length → bD w.heap.size w (vs.getD i undef) (zss.getD i [])) :
 nK (w.heap.size + 1) (w.alloc (.cells C 33)) (.slice (some ⟨w.heap.size, 0, none⟩) zss.length zss.length) zss := by
 subst hC; refine ⟨by omega, _, _, rfl, .inr ⟨_, _, rfl, by omega, fun i hi => ⟨vs.getD i undef, ?_, ?_⟩⟩⟩
 · rw [World.cell?, heap_alloc_new]
   simp [List.getD_eq_getElem?_getD, hl, hi]
 · exact ((hr i hi).below ((Below.refl _ _).alloc (nl _) _)).mono (by omega)
theorem bW.over {w w1 : World} {zs : List Int} {e : Ending} {w' : World} (h : bW w1 zs e w') (hb : Below w.heap.size w w1) : bW w zs e w' := by
 obtain ⟨v, rfl, hrow, hb1⟩ := h; exact ⟨v, rfl, hrow.wide hb.size (nl _), hb.trans (hb1.mono hb.size)⟩
theorem bD.form {B : Nat} {w : World} {v : Value} {zs : List Int} (h : bD B w v zs) : ∃ a n cap, v = .slice a n cap := by
 obtain ⟨_, a, cap, hv, _⟩ := h; exact ⟨a, _, cap, hv⟩
set_option maxHeartbeats 400000 in
theorem Ez (w : World) (v : Value) (zs : List Int) (h : bD w.heap.size w v zs) (hin : bi zs) (hl : zs.length ≤ 1000000000) :
 Calls Tryz.prog 113 #[v] w (bW w (bK zs)) := by
 obtain ⟨a, n, cap, hv⟩ := h.form; rw [hv]; rw [hv] at h; clear hv; have hb := (Below.refl w.heap.size w).alloc (nl _) (.cells #[.slice a n cap] 33); have hll : nK (w.heap.size + 1) (w.alloc (.cells #[.slice a n cap] 33)) (.slice (some ⟨w.heap.size, 0, none⟩) 1 1) [zs] := E5 (vs := [.slice a n cap]) (zss := [zs]) _ rfl rfl (by simp) (by intro i hi; simp at hi; subst hi; exact h)
 have e : [zs].flatten = zs := by simp
 have hcall := x9 (w.alloc (.cells #[.slice a n cap] 33)) _ [zs] (by simpa using hll) (by rw [e]; exact hin) (by rw [e]; exact hl)
 rw [e] at hcall; replace e := ae e; clear hll; go_enter Tryz.func113, Tryz.ntmps113
 go_wp2_with fail; refine hcall.mono ?_; rintro e1 w1 hr1; have hr := hr1.over hb; clear hr1 hcall; obtain ⟨v1, rfl, hrow, hb1⟩ := hr; replace hrow := ae hrow; go_wp2; go_ret; exact ⟨_, rfl, hrow.out, hb1⟩
end Go.Proofs.YtgnomlcjikfdhaaGreat
