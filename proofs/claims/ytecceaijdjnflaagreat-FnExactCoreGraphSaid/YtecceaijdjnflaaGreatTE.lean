/- Cores, the model: CanonicalOrder (tools/te.py). -/
import Derived.Test.YtecceaijdjnflaaGreatTA
import Derived.Test.YtecceaijdjnflaaGreatQE
import Derived.Test.YtecceaijdjnflaaGreatLET
import Derived.Deep.LoopGhost
import Derived.Deep.Cut
import Derived.Deep.RegionHeld3
import Derived.Laws.AppendOwn
import Derived.Laws.AppendOwnNone
import Derived.Maps.AppendAt
namespace Go.Proofs.YtecceaijdjnflaaGreat
open Go.RowKit
set_option linter.unusedVariables false
set_option linter.unusedSimpArgs false

theorem wpList_pushI_by {w0 : World} {ops : Array Oper} {rest : List Oper} {o : Oper} {a : Act} {Q : Exit → Act → World → Prop} (hgd : o.guard = none) (s x : Operand)
    (ho : o.op = .call { callee := .builtin .append, args := #[s, x], argTypes := #[38, 38] }) (base : Nat) (v : Value) (zs : List Int) (z : Int)
    (hs : a.eval s = v) (hx : a.eval x = .slice (some ⟨w0.heap.size, 0, none⟩) 1 1) (hown : OwnsI w0 base v zs) (hl : zs.length ≤ 1000000000) (hbase : base ≤ w0.heap.size)
    (h : ∀ v' w', OwnsI w' base v' (zs ++ [z]) → (w0.alloc (.cells #[.int .i64 z] 3)).grownBy w' v.ownBlock → (v'.ownBlock = v.ownBlock ∨ v'.ownBlock = some (w0.heap.size + 1)) → wpList Tryz.prog ops Q rest (a.put o.dst v') w') :
    wpList Tryz.prog ops Q (o :: rest) a (w0.alloc (.cells #[.int .i64 z] 3)) := by
  obtain ⟨i0, hi, hz0, hz1, hz2⟩ := info_parts infoInt
  refine wpList_append_own_at _ hgd s x 38 ho base 3 i0 (.int .i64 0) 1 8 Tryz.underlying38 hi hz0 hz1 hz2 rfl (by decide) v zs.length (zs.map iv) hs (World.ownsRow.alloc hown _) ⟨w0.heap.size, 0, none⟩ 1 1 [iv z] hx rfl (cell_one_new _ _ _) ?_ ?_ ?_ ?_ ?_
  · intro u hu
    simp at hu
    subst hu; rfl
  · unfold maxLen; omega
  · omega
  · simp; omega
  · intro v' w' ho' hg _ hw
    exact h v' w' (by unfold OwnsI; simpa using ho') hg (by simpa using hw)
theorem ownI_other {w w' : World} {base : Nat} {v : Value} {zs : List Int} (h : OwnsI w base v zs) (hb : ∀ k, v.ownBlock = some k → w'.heap[k]? = w.heap[k]?) : OwnsI w' base v zs := by
  obtain ⟨h1, h2 | ⟨g, cap, cur, rfl, hg, hh, hr⟩⟩ := h
  · exact ⟨h1, .inl h2⟩
  · exact ⟨h1, .inr ⟨g, cap, cur, rfl, hg, (hb g rfl).trans hh, hr⟩⟩
theorem ownI_form {w : World} {base : Nat} {v : Value} {zs : List Int} (h : OwnsI w base v zs) (h0 : 0 < zs.length) : ∃ g cap, v = .slice (some ⟨g, 0, none⟩) zs.length cap ∧ base ≤ g ∧ g < w.heap.size ∧ zs.length ≤ cap := by
  have hlt := World.ownsRow.lt h
  obtain ⟨h1, ⟨_, h2⟩ | ⟨g, cap, cur, rfl, hg, hh, hc, hr⟩⟩ := h
  · omega
  · exact ⟨g, cap, rfl, hg, (hlt g rfl).2, hc⟩
/-- The growing order, and the letters elsewhere. -/
def CoSt (w : World) (base lo hi : Nat) (v : Value) (out : List Int) (lv : Value) (ls : List Int) : Prop :=
  OwnsI w base v out ∧ RowI w lo hi lv ls ∧ hi ≤ w.heap.size ∧ (∀ k, v.ownBlock = some k → k < lo ∨ hi ≤ k)
theorem CoSt.below {w w' : World} {base lo hi : Nat} {v : Value} {out : List Int} {lv : Value} {ls : List Int} (h : CoSt w base lo hi v out lv ls) (hb : Below w.heap.size w w') : CoSt w' base lo hi v out lv ls :=
  ⟨ownI_other h.1 (fun k hk => hb.block k (World.ownsRow.lt h.1 k hk).2), h.2.1.below hb h.2.2.1, Nat.le_trans h.2.2.1 hb.size, h.2.2.2⟩
theorem CoSt.push {w w' : World} {base lo hi : Nat} {v v' : Value} {out : List Int} {lv : Value} {ls : List Int} {z : Int} (h : CoSt w base lo hi v out lv ls) (ho : OwnsI w' base v' (out ++ [z]))
    (hg : (w.alloc (.cells #[.int .i64 z] 3)).grownBy w' v.ownBlock) (hv : v'.ownBlock = v.ownBlock ∨ v'.ownBlock = some (w.heap.size + 1)) : CoSt w' base lo hi v' (out ++ [z]) lv ls := by
  have hsz := hg.size
  have hb := (Below.refl w.heap.size w).alloc (Nat.le_refl _) (.cells #[.int .i64 z] 3)
  have h3 := h.2.2.1
  refine ⟨ho, h.2.1.keep (fun k q1 q2 => ?_), ?_, fun k hk => ?_⟩
  · rw [hg.block k (by simp; omega) (fun e => by rcases h.2.2.2 k e.symm with q | q <;> omega)]
    exact hb.block k (by omega)
  · simp at hsz; omega
  · rcases hv with e | e
    · exact h.2.2.2 k (e ▸ hk)
    · rw [e] at hk; right; have : w.heap.size + 1 = k := by simpa using hk
      omega
theorem coS_pre (es : List Ed) (u : Int) (out : List Int) (l : Int) : ∃ t, coS es u out l = out ++ t := by
  unfold coS; split
  · exact ⟨_, rfl⟩
  · exact ⟨[], (List.append_nil _).symm⟩
theorem coR_pre (es : List Ed) (u : Int) (ls : List Int) (out : List Int) : ∀ k, ∃ t, coR es u ls out k = out ++ t := by
  intro k
  unfold coR
  induction ls.take k generalizing out with
  | nil => exact ⟨[], (List.append_nil _).symm⟩
  | cons l r ih =>
    obtain ⟨t1, h1⟩ := coS_pre es u out l
    obtain ⟨t2, h2⟩ := ih (coS es u out l)
    exact ⟨t1 ++ t2, by rw [List.foldl_cons, h2, h1, List.append_assoc]⟩
theorem coR_at {es : List Ed} {u : Int} {ls out : List Int} {k i : Nat} (h : i < out.length) : (coR es u ls out k).getD i 0 = out.getD i 0 ∧ i < (coR es u ls out k).length := by
  obtain ⟨t, ht⟩ := coR_pre es u ls out k
  rw [ht, List.getD_eq_getElem?_getD, List.getElem?_append_left h, List.getD_eq_getElem?_getD, List.length_append]
  exact ⟨rfl, by omega⟩
theorem coN_at {es : List Ed} {ls : List Int} {i : Nat} (h : i < (coN es ls i).length) : coN es ls (i + 1) = coR es ((coN es ls i).getD i 0) ls (coN es ls i) ls.length := by
  rw [coN, if_pos h]
theorem coR_zero (es : List Ed) (u : Int) (ls out : List Int) : coR es u ls out 0 = out := rfl
set_option maxRecDepth 100000 in
set_option maxHeartbeats 1600000 in
theorem specCanO (w : World) (r s : Int) (v : Value) (es : List Ed) (h : ReadE w.heap.size w v es) (hs : -9223372036854775808 ≤ s ∧ s ≤ 9223372036854775807) (hl : es.length ≤ 10000000) :
    Calls Tryz.prog 27 #[.agg #[.int .i64 r, .int .i64 s, v]] w (IntsRet w (coL r s es (letsN r.toNat))) := by
  obtain ⟨a, cap, rfl, hnc⟩ := h.form
  obtain ⟨n, hn⟩ : ∃ n, n = es.length := ⟨_, rfl⟩
  rw [← hn] at hl hnc ⊢
  rw [← hn] at h
  obtain ⟨w1, hw1⟩ : ∃ w1, w1 = w.alloc (.cells #[.int .i64 r, .int .i64 s, .slice a n cap] 28) := ⟨_, rfl⟩
  have hb1 : Below w.heap.size w w1 := by rw [hw1]; exact (Below.refl _ _).alloc (Nat.le_refl _) _
  have hs1 : w.heap.size < w1.heap.size := by rw [hw1]; simp
  obtain ⟨g0, g1, g2⟩ := box3 hw1
  have hcf := specFold w1 r s (.slice a n cap) es ((h.below hb1).mono hb1.size) hs (by omega)
  obtain ⟨B, hB⟩ : ∃ B, B = isFo r s es := ⟨_, rfl⟩
  rw [← hB] at hcf
  obtain ⟨F, hF⟩ : ∃ F, F = coL r s es (letsN r.toNat) := ⟨_, rfl⟩
  rw [← hF]
  have hno : B = false → F = [] := fun hb => by rw [hF, coL, ← hB, hb, if_neg (by decide)]
  have hyes : B = true → F = coN es (letsN r.toNat) 40 := fun hb => by rw [hF, coL, ← hB, hb, if_pos rfl]
  have hnext := fun (W : World) (x y : Int) (hr : ReadE W.heap.size W (.slice a n cap) es) => specNext W r s (.slice a n cap) es x y hr (by omega)
  replace hnext := hidI hnext
  replace hno := hidI hno
  replace hyes := hidI hyes
  replace hF := hidI hF
  replace hn := hidI hn
  replace hw1 := hidI hw1
  replace h := hidI h
  go_enter Tryz.func27, Tryz.ntmps27
  go_wp2_with fail
  rw [← hw1.out]
  refine hcf.mono ?_
  rintro e w2 ⟨rfl, hb2⟩
  clear hcf
  replace g0 := below_cell g0 hb2 hs1
  replace g1 := below_cell g1 hb2 hs1
  replace g2 := below_cell g2 hb2 hs1
  have hb12 := hidI (hb1.trans (hb2.mono hb1.size))
  have hs2 : w.heap.size < w2.heap.size := Nat.lt_of_lt_of_le hs1 hb2.size
  clear hb2
  cases B with
  | false =>
    have hfin : Hid (IntsRet w F (.returned (.slice (some ⟨w2.heap.size, 0, none⟩) 0 0)) (w2.alloc (.cells #[] 3))) := by
      rw [hno.out rfl]
      have hbn := (Below.refl w2.heap.size w2).alloc (Nat.le_refl _) (.cells #[] 3)
      exact hidI ⟨_, rfl, ((OwnsI.lit w2).row (by simp)).wide (by omega) (Nat.le_refl _), hb12.out.trans (hbn.mono hb12.out.size)⟩
    replace hB := hidI hB
    replace hno := hidI hno
    replace hyes := hidI hyes
    go_wp2
    go_ret
    exact hfin.out
  | true =>
    have hfo := hB.symm
    have hgr : isGr r s es = true := by rw [isFo, Bool.and_eq_true] at hfo; exact hfo.1
    have hlim := isGr_iff.1 hgr
    have hrs : 1 ≤ r ∧ r ≤ 3 ∧ 1 ≤ s ∧ s ≤ 40 := ⟨hlim.2.1, hlim.2.2.1, hlim.2.2.2.1, hlim.2.2.2.2.1⟩
    obtain ⟨rN, rfl⟩ : ∃ rN : Nat, r = (rN : Int) := ⟨r.toNat, by omega⟩
    rw [Int.toNat_natCast] at hyes
    obtain ⟨ls, hls⟩ : ∃ ls, ls = letsN rN := ⟨_, rfl⟩
    have hlet := fun W => specLets W rN (by omega)
    rw [← hls] at hlet hyes
    have hln : ls.length ≤ 6 := by rw [hls, letsN_length]; omega
    have hall := CoIn.all (endsIn_of hgr) (show 0 < s.toNat by omega) ls
    have hE := endsIn_of hgr
    have hF40 := hidI (hyes.out rfl)
    obtain ⟨w3, hw3⟩ : ∃ z, z = w2.alloc (.cells #[.int .i64 0] 3) := ⟨_, rfl⟩
    have hb3 : Below w2.heap.size w2 w3 := by rw [hw3]; exact (Below.refl _ _).alloc (Nat.le_refl _) _
    have hown3 : OwnsI w3 w2.heap.size (.slice (some ⟨w2.heap.size, 0, none⟩) 1 1) [0] := by rw [hw3]; exact World.ownsRow_lit w2 #[.int .i64 0] 1 (by omega) (by unfold maxLen; omega) rfl
    replace g0 := below_cell g0 hb3 hs2
    replace g1 := below_cell g1 hb3 hs2
    replace g2 := below_cell g2 hb3 hs2
    have hs3 : w2.heap.size < w3.heap.size := by rw [hw3]; simp
    have hb13 := hidI (hb12.out.trans (hb3.mono hb12.out.size))
    have hw3' := hw3.symm
    replace hw3' := hidI hw3'
    replace hw3 := hidI hw3
    replace hlim := hidI hlim
    replace hall := hidI hall
    replace hE := hidI hE
    replace hgr := hidI hgr
    replace hfo := hidI hfo
    replace hB := hidI hB
    replace hls := hidI hls
    replace hno := hidI hno
    replace hyes := hidI hyes
    replace hown3 := hidI hown3
    clear hb3
    have hlw := hlet w3
    go_upto_region 4 with fail
    rw [hw3'.out]
    go_wp2_with fail
    refine hlw.mono ?_
    rintro e w4 ⟨lv, rfl, hlr, hb4⟩
    clear hlw
    replace hlet := hidI hlet
    replace g0 := below_cell g0 hb4 (by omega)
    replace g1 := below_cell g1 hb4 (by omega)
    replace g2 := below_cell g2 hb4 (by omega)
    have hs4 := hb4.size
    have hb14 := hidI (hb13.out.trans (hb4.mono hb13.out.size))
    have hown4 : Hid (OwnsI w4 w2.heap.size (.slice (some ⟨w2.heap.size, 0, none⟩) 1 1) (coN es ls 0)) := hidI (ownI_other hown3.out (fun k hk => hb4.block k (World.ownsRow.lt hown3.out k hk).2))
    obtain ⟨al, ml, cl, rfl⟩ : ∃ a m c, lv = Value.slice a m c := by
      obtain ⟨_, ⟨h1, _⟩ | ⟨g, off, cap, cur, h1, _⟩⟩ := hlr <;> exact ⟨_, _, _, h1⟩
    have hml : ml = ls.length := by
      obtain ⟨_, ⟨h1, h2⟩ | ⟨g, off, cap, cur, h1, _⟩⟩ := hlr
      · cases h1; rw [h2]; rfl
      · cases h1; rfl
    obtain ⟨lo, hlo⟩ : ∃ z, z = w3.heap.size := ⟨_, rfl⟩
    obtain ⟨hi, hhi⟩ : ∃ z, z = w4.heap.size := ⟨_, rfl⟩
    rw [← hlo, ← hhi] at hlr
    have hst0 : Hid (CoSt w4 w2.heap.size lo hi (.slice (some ⟨w2.heap.size, 0, none⟩) 1 1) (coN es ls 0) (.slice al ml cl) ls) := hidI ⟨hown4.out, hlr, by omega, fun k hk => by
      have : w2.heap.size = k := by simpa [Value.ownBlock] using hk
      left; omega⟩
    have hbw := hidI (Below.refl w2.heap.size w4)
    have hs24 : w2.heap.size ≤ w4.heap.size := by omega
    have hml6 : ml ≤ 6 := by omega
    replace hml := hidI hml
    replace hlo := hidI hlo
    replace hhi := hidI hhi
    clear hb4 hlr hown3 hown4
    go_wp2
    go_loopg [3, 5, 6, 7] 40 (fun g o iv_ kv_ xv_ wr => ∃ i : Nat, i + g = 40 ∧ iv_ = .int .i64 i ∧ Hid (CoSt wr w2.heap.size lo hi o (coN es ls i) (.slice al ml cl) ls) ∧ Hid (Below w2.heap.size w4 wr) ∧ w2.heap.size ≤ wr.heap.size ∧ Hid (i ≤ (coN es ls i).length))
    case atStart => exact ⟨0, rfl, rfl, hst0, hbw, hs24, hidI (Nat.zero_le _)⟩
    case round =>
      clear hst0 hbw hs24
      obtain ⟨i, hi40, rfl, hst, hb, hsw, hil⟩ := hrel
      obtain ⟨O, hO⟩ : ∃ O, O = coN es ls i := ⟨_, rfl⟩
      have hOl : O.length ≤ s.toNat := by rw [hO]; exact (hall.out i).len
      rw [← hO] at hst hil
      obtain ⟨p, hp⟩ : ∃ p, p = O.length := ⟨_, rfl⟩
      have hp40 : p ≤ 40 := by omega
      have hipl : i ≤ p := by have := hil.out; omega
      obtain ⟨og, oc, hov⟩ : ∃ g c, u3 = Value.slice g p c := by
        rw [hp]
        obtain ⟨h1, h2 | ⟨g, cap, cur, e, _⟩⟩ := hst.out.1
        · exact ⟨none, 0, by rw [h2.1, h2.2]⟩
        · exact ⟨_, _, e⟩
      subst hov
      by_cases hlt : i < p
      · have hii : (i : Int) < (p : Int) := by omega
        obtain ⟨u, hu⟩ : ∃ u, u = O.getD i 0 := ⟨_, rfl⟩
        have hnxR : Hid (coN es ls (i + 1) = coR es u ls O ls.length) := hidI (by rw [coN_at (by rw [← hO]; omega), ← hO, ← hu])
        have hOin : Hid (CoIn s.toNat O) := hidI (by rw [hO]; exact hall.out i)
        have hst1 : Hid (CoSt wr w2.heap.size lo hi (.slice og p oc) (coR es u ls O 0) (.slice al ml cl) ls) := hst
        have hip : i < O.length := by omega
        have hat := fun k => coR_at (es := es) (u := u) (ls := ls) (k := k) hip
        replace hat := hidI hat
        replace hO := hidI hO
        replace hu := hidI hu
        replace hp := hidI hp
        replace hi40 := hidI hi40
        clear hst
        go_wp2
        go_loopg [3, 6, 7] ml (fun g o kv_ xv_ wr => ∃ k : Nat, k + g = ml ∧ kv_ = .int .i64 k ∧ Hid (CoSt wr w2.heap.size lo hi o (coR es u ls O k) (.slice al ml cl) ls) ∧ Hid (Below w2.heap.size w4 wr) ∧ w2.heap.size ≤ wr.heap.size)
        case atStart => exact ⟨0, by omega, rfl, hst1, hb, hsw⟩
        case round =>
          clear hst1 hb hsw
          obtain ⟨k, hk, rfl, hst, hb, hsw⟩ := hrel
          obtain ⟨L, hL⟩ : ∃ L, L = coR es u ls O k := ⟨_, rfl⟩
          have hLl : L.length ≤ s.toNat := by rw [hL]; exact (hOin.out.row hE.out ls k).len
          have hLa := hat.out k
          rw [← hL] at hLa hst
          obtain ⟨q, hq⟩ : ∃ q, q = L.length := ⟨_, rfl⟩
          have hq40 : q ≤ 40 := by omega
          have hiq : i < q := by omega
          obtain ⟨og, oc, hov⟩ : ∃ g c, u3 = Value.slice g q c := by
            rw [hq]
            obtain ⟨h1, h2 | ⟨g, cap, cur, e, _⟩⟩ := hst.out.1
            · exact ⟨none, 0, by rw [h2.1, h2.2]⟩
            · exact ⟨_, _, e⟩
          subst hov
          by_cases hlt2 : k < ml
          · have hki : (k : Int) < (ml : Int) := by omega
            have hii : (i : Int) < (q : Int) := by omega
            have hrw := (hst.out.1.row (by omega)).read
            obtain ⟨ob, ooff, hob, hobB, c3⟩ := hrw.at2 i (by omega)
            subst hob
            have hlrd := hst.out.2.1.read
            obtain ⟨lb, loff, hlb, hlB, c4⟩ := hlrd.at2 k (by have := hml.out; omega)
            subst hlb
            have hhiw := hst.out.2.2.1
            rw [hLa.1, ← hu.out] at c3
            obtain ⟨z, hz⟩ : ∃ z, z = ls.getD k 0 := ⟨_, rfl⟩
            rw [← hz] at c4
            have q0 := below_cell g0 hb.out hs2
            have q1 := below_cell g1 hb.out hs2
            have q2 := below_cell g2 hb.out hs2
            obtain ⟨wd, hwd⟩ : ∃ z, z = wr.drew := ⟨_, rfl⟩
            have hbd : Below wr.heap.size wr wd := by rw [hwd]; exact below_dn (Below.refl _ _) 1
            have hws : w.heap.size < wr.heap.size := by omega
            replace q0 := below_cell q0 hbd hws
            replace q1 := below_cell q1 hbd hws
            replace q2 := below_cell q2 hbd hws
            replace c3 := below_cell c3 hbd hobB
            replace c4 := below_cell c4 hbd (by omega)
            have hstd : Hid (CoSt wd w2.heap.size lo hi (.slice (some ⟨ob, ooff, none⟩) q oc) L (.slice (some ⟨lb, loff, none⟩) ml cl) ls) := hidI (hst.out.below hbd)
            have hbwd : Below w2.heap.size w4 wd := hb.out.trans (hbd.mono hsw)
            have hbwd0 := hb14.out.trans (hbwd.mono (by omega))
            have hcall := hnext.out wd u z ((h.out.below hbwd0).mono hbwd0.size)
            obtain ⟨y, hy⟩ : ∃ y, y = nxV es u z := ⟨_, rfl⟩
            rw [← hy] at hcall
            have hcoS : coR es u ls O (k + 1) = if 0 ≤ y ∧ y ∉ L then L ++ [y] else L := by
              rw [coR_next (by have := hml.out; omega), ← hL, coS, ← hz, ← hy]
            have hsd := hbd.size
            replace hcoS := hidI hcoS
            replace hy := hidI hy
            replace hz := hidI hz
            replace hL := hidI hL
            replace hq := hidI hq
            replace hk := hidI hk
            replace hwd := hidI hwd
            replace hbwd := hidI hbwd
            replace hLa := hidI hLa
            clear hst hb hrw hlrd hbd
            go_wp2
            refine hideQ (fun _ _ d _ _ h => by cases d <;> exact h) (fun Q' hnorm hpan => ?_)
            refine wp_region_held_drew (S := (fun W0 => W0.cell? ⟨w.heap.size, 0, none⟩ = some (.int .i64 (rN : Int)) ∧ W0.cell? ⟨w.heap.size, 1, none⟩ = some (.int .i64 s) ∧ W0.cell? ⟨w.heap.size, 2, none⟩ = some (.slice a n cap) ∧ W0.cell? ⟨ob, ooff + i, none⟩ = some (.int .i64 u) ∧ W0.cell? ⟨lb, loff + k, none⟩ = some (.int .i64 z))) (by kernel_rfl) ?_ (fun hHeld => ?_)
            · try dsimp only
              first | ((repeat' apply And.intro) <;> assumption) | (rw [← hwd.out]; ((repeat' apply And.intro) <;> assumption))
            rw [← hwd.out] at hHeld ⊢
            refine take_at 0 28 (v := ?_) rfl (by kernel_rfl) (by kernel_rfl) (by kernel_rfl) (by kernel_rfl) hpan (Or.inl ⟨by rfl, ?_⟩) (by assumption) ?_
            rotate_left
            · intro w hSw; (try dsimp only at hSw); go_simp; with_reducible rfl
            simp only [Act.put, List.setIfInBounds_toArray, List.set_cons_zero, List.set_cons_succ]
            refine take_at 1 29 (v := ?_) rfl (by kernel_rfl) (by kernel_rfl) (by kernel_rfl) (by kernel_rfl) hpan (Or.inl ⟨by rfl, ?_⟩) (by assumption) ?_
            rotate_left
            · intro w hSw; (try dsimp only at hSw); go_simp; with_reducible rfl
            simp only [Act.put, List.setIfInBounds_toArray, List.set_cons_zero, List.set_cons_succ]
            refine take_at 2 30 (v := ?_) rfl (by kernel_rfl) (by kernel_rfl) (by kernel_rfl) (by kernel_rfl) hpan (Or.inl ⟨by rfl, ?_⟩) (by assumption) ?_
            rotate_left
            · intro w hSw; (try dsimp only at hSw); go_simp; with_reducible rfl
            simp only [Act.put, List.setIfInBounds_toArray, List.set_cons_zero, List.set_cons_succ]
            refine take_at 3 31 (v := ?_) rfl (by kernel_rfl) (by kernel_rfl) (by kernel_rfl) (by kernel_rfl) hpan (Or.inl ⟨by rfl, ?_⟩) (by assumption) ?_
            rotate_left
            · intro w hSw; (try dsimp only at hSw); go_simp; with_reducible rfl
            simp only [Act.put, List.setIfInBounds_toArray, List.set_cons_zero, List.set_cons_succ]
            refine take_at 4 32 (v := ?_) rfl (by kernel_rfl) (by kernel_rfl) (by kernel_rfl) (by kernel_rfl) hpan (Or.inl ⟨by rfl, ?_⟩) (by assumption) ?_
            rotate_left
            · intro w hSw; (try dsimp only at hSw); go_simp; with_reducible rfl
            simp only [Act.put, List.setIfInBounds_toArray, List.set_cons_zero, List.set_cons_succ]
            refine take_at 5 33 (v := ?_) rfl (by kernel_rfl) (by kernel_rfl) (by kernel_rfl) (by kernel_rfl) hpan (Or.inl ⟨by rfl, ?_⟩) (by assumption) ?_
            rotate_left
            · intro w hSw; (try dsimp only at hSw); go_simp; with_reducible rfl
            simp only [Act.put, List.setIfInBounds_toArray, List.set_cons_zero, List.set_cons_succ]
            refine take_at 6 34 (v := ?_) rfl (by kernel_rfl) (by kernel_rfl) (by kernel_rfl) (by kernel_rfl) hpan (Or.inl ⟨by rfl, ?_⟩) (by assumption) ?_
            rotate_left
            · intro w hSw; (try dsimp only at hSw); go_simp; with_reducible rfl
            simp only [Act.put, List.setIfInBounds_toArray, List.set_cons_zero, List.set_cons_succ]
            refine take_at 7 35 (v := ?_) rfl (by kernel_rfl) (by kernel_rfl) (by kernel_rfl) (by kernel_rfl) hpan (Or.inl ⟨by rfl, ?_⟩) (by assumption) ?_
            rotate_left
            · intro w hSw; (try dsimp only at hSw); go_simp; with_reducible rfl
            simp only [Act.put, List.setIfInBounds_toArray, List.set_cons_zero, List.set_cons_succ]
            refine take_at 8 36 (v := ?_) rfl (by kernel_rfl) (by kernel_rfl) (by kernel_rfl) (by kernel_rfl) hpan (Or.inl ⟨by rfl, ?_⟩) (by assumption) ?_
            rotate_left
            · intro w hSw; (try dsimp only at hSw); go_simp; with_reducible rfl
            simp only [Act.put, List.setIfInBounds_toArray, List.set_cons_zero, List.set_cons_succ]
            refine wpAnyH_ready (rs := [9]) (by kernel_rfl) (by simp) ?_
            refine AllReadyH.cons rfl (fun K hK => ?_) AllReadyH.nil
            rw [if_pos (by rfl)]
            go_simp
            refine hcall.mono ?_
            rintro e w5 ⟨rfl, hb5⟩
            have x0 := below_cell q0 hb5 (by omega)
            have x1 := below_cell q1 hb5 (by omega)
            have x2 := below_cell q2 hb5 (by omega)
            have x3 := below_cell c3 hb5 (by omega)
            have x4 := below_cell c4 hb5 (by omega)
            refine hK.out _ _ ?_ (fun hHeld => ?_)
            · try dsimp only
              first | ((repeat' apply And.intro) <;> assumption) | (rw [← hwd.out]; ((repeat' apply And.intro) <;> assumption))
            clear hK
            try simp only [Act.put, List.setIfInBounds_toArray, List.set_cons_zero, List.set_cons_succ]
            refine take_at 10 7 (v := ?_) rfl (by kernel_rfl) (by kernel_rfl) (by kernel_rfl) (by kernel_rfl) hpan (Or.inl ⟨by rfl, ?_⟩) (by assumption) ?_
            rotate_left
            · intro w hSw; (try dsimp only at hSw); go_simp; with_reducible rfl
            simp only [Act.put, List.setIfInBounds_toArray, List.set_cons_zero, List.set_cons_succ]
            refine wpAnyH_done (by kernel_rfl) ?_ _
            refine hnorm _ _ ?_
            clear hnorm hpan
            repeat clear hHeld
            try simp only [Exit.then]
            have hst5 := hidI (hstd.out.below hb5)
            have hb45 := hidI (hbwd.out.trans (hb5.mono (by omega)))
            have hs5 : w2.heap.size ≤ w5.heap.size := by have := hb5.size; omega
            have hhas := hasL_any w5 w5.heap.size (.slice (some ⟨ob, ooff, none⟩) q oc) L y (hst5.out.1.row (by omega)).read (by omega)
            clear hb5 q0 q1 q2 c3 c4 x0 x1 x2 x3 x4
            by_cases hy0 : 0 ≤ y
            · by_cases hm : y ∈ L
              · have hst6 : Hid (CoSt w5 w2.heap.size lo hi (.slice (some ⟨ob, ooff, none⟩) q oc) (coR es u ls O (k + 1)) (.slice (some ⟨lb, loff, none⟩) ml cl) ls) := hidI (by
                  rw [hcoS.out, if_neg (by intro e; exact e.2 hm)]; exact hst5.out)
                rw [show decide (y ∈ L) = true from decide_eq_true hm] at hhas
                replace hm := hidI hm
                go_wp2_with fail
                refine hhas.mono ?_
                rintro e w7 ⟨rfl, hw7⟩
                replace hw7 := hw7.symm
                subst hw7
                clear hhas
                go_wp2
                go_roundg (ml - (k + 1))
                case rel => exact ⟨k + 1, by have := hk.out; omega, by go_num, hst6, hb45, hs5⟩
                case measure => have := hk.out; omega
              · rw [show decide (y ∈ L) = false from decide_eq_false hm] at hhas
                have hcoP : Hid (coR es u ls O (k + 1) = L ++ [y]) := hidI (by rw [hcoS.out, if_pos ⟨hy0, hm⟩])
                have hown5 := hst5.out.1
                replace hm := hidI hm
                go_wp2_with fail
                refine hhas.mono ?_
                rintro e w7 ⟨rfl, hw7⟩
                replace hw7 := hw7.symm
                subst hw7
                clear hhas
                go_wp2_with (at_builtin; go_must (refine wpList_pushI_by rfl _ _ rfl w2.heap.size (.slice (some ⟨ob, ooff, none⟩) q oc) L _ rfl rfl hown5 (by have := hq.out; omega) hs5 ?_))
                intro v6 w6 hown6 hg6 hloc6
                have hst6 : Hid (CoSt w6 w2.heap.size lo hi v6 (coR es u ls O (k + 1)) (.slice (some ⟨lb, loff, none⟩) ml cl) ls) := hidI (by rw [hcoP.out]; exact hst5.out.push hown6 hg6 hloc6)
                have hbn : Below w2.heap.size w5 w6 := ((Below.refl w2.heap.size w5).alloc hs5 _).grown hg6 (by simp; omega) (fun k hk => (World.ownsRow.lt hown5 k hk).1)
                have hb46 := hidI (hb45.out.trans hbn)
                have hs6 : w2.heap.size ≤ w6.heap.size := by have := hbn.size; omega
                clear hown6 hg6 hloc6 hbn hown5
                go_wp2
                go_roundg (ml - (k + 1))
                case rel => exact ⟨k + 1, by have := hk.out; omega, by go_num, hst6, hb46, hs6⟩
                case measure => have := hk.out; omega
            · have hst6 : Hid (CoSt w5 w2.heap.size lo hi (.slice (some ⟨ob, ooff, none⟩) q oc) (coR es u ls O (k + 1)) (.slice (some ⟨lb, loff, none⟩) ml cl) ls) := hidI (by
                rw [hcoS.out, if_neg (by intro e; exact hy0 e.1)]; exact hst5.out)
              clear hhas
              go_wp2
              go_roundg (ml - (k + 1))
              case rel => exact ⟨k + 1, by have := hk.out; omega, by go_num, hst6, hb45, hs5⟩
              case measure => have := hk.out; omega
          · obtain rfl : k = ml := by omega
            have hki : ¬ (k : Int) < (k : Int) := by omega
            have hst6 : Hid (CoSt wr w2.heap.size lo hi (.slice og q oc) (coN es ls (i + 1)) (.slice al k cl) ls) := hidI (by rw [hnxR.out, ← hml.out, ← hL]; exact hst.out)
            have hil6 : Hid (i + 1 ≤ (coN es ls (i + 1)).length) := hidI (by rw [hnxR.out, ← hml.out, ← hL]; omega)
            have hb6 := hb
            replace hL := hidI hL
            replace hq := hidI hq
            replace hk := hidI hk
            replace hLa := hidI hLa
            clear hst hb
            go_wp2
            go_roundg (40 - (i + 1))
            case rel => exact ⟨i + 1, by have := hi40.out; omega, by go_num, hst6, hb6, hsw, hil6⟩
            case measure => have := hi40.out; omega
      · obtain rfl : i = p := by omega
        have hii : ¬ (i : Int) < (i : Int) := by omega
        have hst40 : coN es ls 40 = O := by
          have := coN_stop (es := es) (ls := ls) (i := i) (by rw [← hO]; omega) (40 - i)
          rw [show i + (40 - i) = 40 by omega] at this
          rw [this, hO]
        have hfin : IntsRet w F (.returned (.slice og i oc)) wr := by
          rw [hF40.out, hst40]
          exact ⟨_, rfl, (hst.out.1.row (by omega)).wide (by omega) (Nat.le_refl _), hb14.out.trans (hb.out.mono (by omega))⟩
        replace hfin := hidI hfin
        replace hO := hidI hO
        replace hp := hidI hp
        replace hst40 := hidI hst40
        go_wp2
        go_ret
        exact hfin.out
end Go.Proofs.YtecceaijdjnflaaGreat
