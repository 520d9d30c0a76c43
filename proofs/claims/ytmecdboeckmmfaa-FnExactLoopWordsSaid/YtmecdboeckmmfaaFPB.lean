/- Loops, the program: LoopWords' contract (tools/fpb.py). -/
import Derived.Test.YtmecdboeckmmfaaFPA
import Derived.Test.YtmecdboeckmmfaaGP2
import Derived.StillTailTactics
namespace Go.Proofs.Ytmecdboeckmmfaa
open Go.RowKit Go.Maps
set_option linter.unusedVariables false
set_option linter.unusedSimpArgs false

theorem prW_at : ∀ (P : List (Value × Wa)) (k : Nat) (hk : k < P.length), (prW P)[k * 2]? = some P[k].1 ∧ (prW P)[k * 2 + 1]? = some (.int .i64 P[k].2.2) := by
  intro P
  induction P with
  | nil => intro k hk; simp at hk
  | cons p P ih =>
    intro k hk
    cases k with
    | zero => exact ⟨rfl, rfl⟩
    | succ k =>
      have := ih k (by simpa using hk)
      rw [show (k + 1) * 2 = k * 2 + 1 + 1 by omega]
      simpa [prW] using this
theorem OwnsP.at_ {w : World} {lo : Nat} {v : Value} {P : List (Value × Wa)} (h : OwnsP w lo v P) (k : Nat) (hk : k < P.length) :
    ∃ g cap, v = .slice (some ⟨g, 0, none⟩) P.length cap ∧ lo ≤ g ∧ g < w.heap.size ∧ w.cell? ⟨g, k * 2, none⟩ = some P[k].1 ∧ w.cell? ⟨g, k * 2 + 1, none⟩ = some (.int .i64 P[k].2.2) := by
  have hlt := World.ownsRow.lt h
  obtain ⟨hlen, ⟨rfl, hn⟩ | ⟨g, cap, cur, rfl, hg, hr⟩⟩ := id h
  · omega
  · have hc := World.ownsRow.cells (g := g) h rfl
    obtain ⟨q1, q2⟩ := prW_at P k hk
    have c1 := hc _ _ q1
    have c2 := hc _ _ q2
    rw [addr_plus, Nat.zero_add] at c1 c2
    exact ⟨g, cap, rfl, hg, (hlt g rfl).2, c1, c2⟩
theorem take_filter {α : Type} {P : List α} {f : α → Bool} {k : Nat} (hk : k < P.length) : (P.take (k + 1)).filter f = (P.take k).filter f ++ (if f P[k] = true then [P[k]] else []) := by
  rw [List.take_succ_eq_append_getElem hk, List.filter_append]
  congr 1
  by_cases h : f P[k] = true
  · rw [if_pos h, List.filter_cons_of_pos h]; rfl
  · rw [if_neg h, List.filter_cons_of_neg h]; rfl
theorem nil_words (w : World) {lo hi : Nat} : RowSS w lo hi (.slice none 0 0) [] [] :=
  ⟨rfl, by simp, .inl ⟨rfl, rfl⟩, fun i hi => by simp at hi, fun i j b hi => by simp at hi⟩
set_option maxRecDepth 100000 in
set_option maxHeartbeats 6400000 in
theorem progLoops (w : World) (r s : Int) (v : Value) (es : List Ed) (x m : Int) (h : ReadE w.heap.size w v es) (hl : es.length ≤ 10000000) :
    Calls Try.prog 14 #[.agg #[.int .i64 r, .int .i64 s, v], .int .i64 x, .int .i64 m] w (LwWords w (lwAns r s es x m)) := by
  obtain ⟨a, cap, rfl, hnc⟩ := h.form
  obtain ⟨n, hn⟩ : ∃ n, n = es.length := ⟨_, rfl⟩
  rw [← hn] at hl hnc ⊢
  rw [← hn] at h
  obtain ⟨w1, hw1⟩ : ∃ w1, w1 = w.alloc (.cells #[.int .i64 r, .int .i64 s, .slice a n cap] 30) := ⟨_, rfl⟩
  have hb1 : Below w.heap.size w w1 := by rw [hw1]; exact (Below.refl _ _).alloc (Nat.le_refl _) _
  have hs1 : w1.heap.size = w.heap.size + 1 := by rw [hw1]; simp
  obtain ⟨g0, g1, g2⟩ := box3 hw1
  have hcf := folded_any w1 r s (.slice a n cap) es ((h.below hb1).mono hb1.size) (by omega)
  obtain ⟨F, hF⟩ : ∃ F, F = lwAns r s es x m := ⟨_, rfl⟩
  rw [← hF]
  have hno : F = [] → ∀ W : World, Below w.heap.size w W → LwWords w F (.returned (.slice none 0 0)) W := fun h W hW => by
    rw [h]
    exact ⟨_, [], rfl, nil_words W, hW⟩
  have hF0 : ¬ (isFo r s es = true ∧ (0 ≤ x ∧ x < s) ∧ 0 ≤ m ∧ m ≤ 4) → F = [] := fun h => by rw [hF]; unfold lwAns; rw [if_neg h]
  have hF1 : (isFo r s es = true ∧ (0 ≤ x ∧ x < s) ∧ 0 ≤ m ∧ m ≤ 4) → F = loopsL es (letsN r.toNat) x m.toNat := fun h => by rw [hF]; unfold lwAns; rw [if_pos h]
  replace hno := hidI hno
  replace hF0 := hidI hF0
  replace hF1 := hidI hF1
  replace hF := hidI hF
  replace hn := hidI hn
  replace h := hidI h
  replace hs1 := hidI hs1
  go_enter Try.func14, Try.ntmps14
  go_wp2_with fail
  rw [← hw1]
  replace hw1 := hidI hw1
  refine hcf.mono ?_
  rintro e w2 (⟨hf, bm, rfl, hlb, hlb2, hmap, hb2⟩ | ⟨hf, rfl, hb2⟩)
  case inr =>
    clear hcf
    have hfin := hidI (hno.out (hF0.out (by rw [hf]; simp)) w2 (hb1.trans (hb2.mono hb1.size)))
    replace hf := hidI hf
    go_wp2
    go_ret
    exact hfin.out
  clear hcf
  have hci := gpVertex w2 r s x a n cap
  have hlt1 : w.heap.size < w1.heap.size := by have := hs1.out; omega
  replace g0 := below_cell g0 hb2 hlt1
  replace g1 := below_cell g1 hb2 hlt1
  replace g2 := below_cell g2 hb2 hlt1
  have hb12 := hidI (hb1.trans (hb2.mono hb1.size))
  have hl2a : w.heap.size < w2.heap.size := Nat.lt_of_lt_of_le hlt1 hb2.size
  clear hb2
  by_cases hv : 0 ≤ x ∧ x < s
  case neg =>
    have hd : decide (0 ≤ x ∧ x < s) = false := decide_eq_false hv
    rw [hd] at hci
    have hfin := hidI (hno.out (hF0.out (fun h => hv h.2.1)))
    replace hf := hidI hf
    replace hmap := hidI hmap
    replace hv := hidI hv
    go_wp2_with (go_at_call 48; refine hci.mono ?_; rintro e w3 ⟨rfl, hb3⟩)
    have hfin2 := hfin.out w3 (hb12.out.trans (hb3.mono hb12.out.size))
    replace hfin2 := hidI hfin2
    go_wp2
    go_ret
    exact hfin2.out
  have hd : decide (0 ≤ x ∧ x < s) = true := decide_eq_true hv
  rw [hd] at hci
  by_cases hm0 : m < 0
  case pos =>
    have hfin := hidI (hno.out (hF0.out (fun h => by omega)))
    replace hf := hidI hf
    replace hmap := hidI hmap
    replace hv := hidI hv
    go_wp2_with (go_at_call 48; refine hci.mono ?_; rintro e w3 ⟨rfl, hb3⟩)
    have hfin2 := hfin.out w3 (hb12.out.trans (hb3.mono hb12.out.size))
    replace hfin2 := hidI hfin2
    go_wp2
    go_ret
    exact hfin2.out
  by_cases hm4 : m > 4
  case pos =>
    have hfin := hidI (hno.out (hF0.out (fun h => by omega)))
    replace hf := hidI hf
    replace hmap := hidI hmap
    replace hv := hidI hv
    go_wp2_with (go_at_call 48; refine hci.mono ?_; rintro e w3 ⟨rfl, hb3⟩)
    have hfin2 := hfin.out w3 (hb12.out.trans (hb3.mono hb12.out.size))
    replace hfin2 := hidI hfin2
    go_wp2
    go_ret
    exact hfin2.out
  have hg := hf
  unfold isFo at hg
  rw [Bool.and_eq_true] at hg
  have hlim := isGr_lim hg.1
  have hFL := hF1.out ⟨hf, hv, by omega, by omega⟩
  obtain ⟨rN, rfl⟩ : ∃ k : Nat, r = (k : Int) := ⟨r.toNat, by omega⟩
  obtain ⟨sN, rfl⟩ : ∃ k : Nat, s = (k : Int) := ⟨s.toNat, by omega⟩
  obtain ⟨mN, rfl⟩ : ∃ k : Nat, m = (k : Int) := ⟨m.toNat, by omega⟩
  rw [Int.toNat_natCast, Int.toNat_natCast] at hFL
  have hm4' : mN ≤ 4 := by omega
  obtain ⟨LS, hLS⟩ : ∃ L, L = letsN rN := ⟨_, rfl⟩
  rw [← hLS] at hFL
  have hlsok : LetsOk LS := by rw [hLS]; exact letsN_ok (by omega)
  have hgg := grow_good hf hlsok hv mN
  have hupc := (up_count (es := es) hlsok.1 x hm4').1
  have hgc : ∀ i, (∀ j, j < i → j < (growW es LS x mN j).length) → i ≤ 1555 ∧ (growW es LS x mN i).length ≤ 1555 := fun i hi => by
    have := grow_count (es := es) (ls := LS) (v := x) (most := mN) (i := i) hi
    omega
  have hge := fun i h1 h2 => growW_end (es := es) (ls := LS) (v := x) (most := mN) (i := i) h1 h2
  have hlong := fun (W : World) (aw : Option Addr) (cw : Nat) (wd : List Int) (y : Int) (hW : Below w2.heap.size w2 W) => longer_any W rN sN bm es hf (hmap.below hW hlb2) (Nat.lt_of_lt_of_le hlb2 hW.size) aw cw wd y
  rw [← hLS] at hlong
  replace hlong := hidI hlong
  replace hgg := hidI hgg
  replace hgc := hidI hgc
  replace hge := hidI hge
  replace hupc := hidI hupc
  replace hlsok := hidI hlsok
  replace hLS := hidI hLS
  replace hFL := hidI hFL
  replace hf := hidI hf
  replace hg := hidI hg
  replace hlim := hidI hlim
  replace hmap := hidI hmap
  replace hv := hidI hv
  go_upto_region 4 with (go_at_call 48; refine hci.mono ?_; rintro e w3 ⟨rfl, hb3⟩)
  clear hci hd
  replace g0 := below_cell g0 hb3 hl2a
  have hb13 := hidI (hb12.out.trans (hb3.mono hb12.out.size))
  have hl3a : w.heap.size < w3.heap.size := Nat.lt_of_lt_of_le hl2a hb3.size
  have hb23 := hidI hb3
  clear g1 g2 hb3
  obtain ⟨w4, hw4⟩ : ∃ z, z = w3.alloc (.cells #[.slice none 0 0, .int .i64 x] 65) := ⟨_, rfl⟩
  have hb4 : Below w3.heap.size w3 w4 := by rw [hw4]; exact (Below.refl _ _).alloc (Nat.le_refl _) _
  have hs4 : w4.heap.size = w3.heap.size + 1 := by rw [hw4]; simp
  have hst4 : LoopSt w4 w3.heap.size (.slice (some ⟨w3.heap.size, 0, none⟩) 1 1) (.slice none 0 0) [(.slice none 0 0, ([], x))] [] := by
    refine ⟨⟨rfl, .inr ⟨w3.heap.size, 1, #[.slice none 0 0, .int .i64 x], rfl, Nat.le_refl _, by rw [hw4]; exact heap_alloc_new _ _, Nat.le_refl _, by unfold maxLen; omega, rfl, rfl⟩⟩, ⟨fun p hp => ?_, List.pairwise_singleton _ _⟩, OwnsW.nil _ _, List.nil_sublist _, fun p hp b hb => ?_, fun b hb e => ?_⟩
    · rw [List.mem_singleton] at hp; subst hp; exact ⟨⟨by simp, .inl ⟨rfl, rfl⟩⟩, fun b hb => by cases hb⟩
    · rw [List.mem_singleton] at hp; subst hp; cases hb
    · cases e
  have hst0 := hidI (show ∃ P : List (Value × Wa), P.map (·.2) = growW es LS x mN 0 ∧ (∀ j, j < 0 → j < (growW es LS x mN j).length) ∧ LoopSt w4 w3.heap.size (.slice (some ⟨w3.heap.size, 0, none⟩) 1 1) (.slice none 0 0) P ((P.take 0).filter fun p => p.2.2 == x) from ⟨_, rfl, fun j hj => by omega, hst4⟩)
  replace hb4 := hidI hb4
  replace hs4 := hidI hs4
  clear hst4
  go_upto_region 6 with fail
  rw [← hw4]
  replace hw4 := hidI hw4
  go_wp2
  go_loopg [9, 10, 11] 1556 (fun g vl vw i wr => ∃ k : Nat, k + g = 1556 ∧ i = .int .i64 k ∧ Hid (∃ P : List (Value × Wa), P.map (·.2) = growW es LS x mN k ∧ (∀ j, j < k → j < (growW es LS x mN j).length) ∧ LoopSt wr w3.heap.size vw vl P ((P.take k).filter fun p => p.2.2 == x)) ∧ Hid (Below w3.heap.size w3 wr))
  case atStart => exact ⟨0, by omega, rfl, hst0, hb4⟩
  case round =>
    clear hst0
    obtain ⟨k, hk, rfl, hPP, hb⟩ := hrel
    obtain ⟨P, hP1, hP2, hst⟩ := hPP.out
    obtain ⟨a9, m9, c9, rfl⟩ : ∃ a m c, u9 = Value.slice a m c := by
      obtain ⟨_, _, ⟨_, ⟨h1, _⟩ | ⟨g, cap, cur, h1, _⟩⟩, _⟩ := hst <;> exact ⟨_, _, _, h1⟩
    obtain ⟨p, hp⟩ : ∃ p, p = P.length := ⟨_, rfl⟩
    obtain ⟨a10, c10, rfl⟩ : ∃ a c, u10 = Value.slice a p c := by
      obtain ⟨⟨_, ⟨h1, h2⟩ | ⟨g, cap, cur, h1, _⟩⟩, _⟩ := hst
      · exact ⟨_, _, by rw [h1, hp, h2]⟩
      · exact ⟨_, _, by rw [hp]; exact h1⟩
    have hkp := hgc.out k hP2
    have hpl : p ≤ 1555 := by have := congrArg List.length hP1; rw [List.length_map] at this; omega
    have g0r := below_cell g0 hb.out hl3a
    by_cases hlt : k < p
    · have hki : (k : Int) < (p : Int) := by omega
      have hkP : k < P.length := by omega
      obtain ⟨g10, q10, hv10, hg10, hg10b, d0, d1⟩ := OwnsP.at_ hst.1 k hkP
      simp only [Value.slice.injEq] at hv10
      obtain ⟨rfl, hz10, rfl⟩ := hv10
      clear hz10
      have hE := (hst.2.1.1 P[k] (List.getElem_mem hkP)).1
      have hgw := hgg.out k P[k].2 (by rw [← hP1]; exact List.mem_map_of_mem (List.getElem_mem hkP))
      have hgt : (growW es LS x mN k).getD k ([], x) = P[k].2 := by rw [← hP1, List.getD_eq_getElem?_getD, List.getElem?_map, List.getElem?_eq_getElem hkP]; rfl
      have hnx : growW es LS x mN (k + 1) = growW es LS x mN k ++ kidsTo es LS mN P[k].2 := by rw [growW, hgt]
      have htf := take_filter (f := fun p : Value × Wa => p.2.2 == x) hkP
      have hsb : ((P.take (k + 1)).filter fun p => p.2.2 == x).Sublist P := List.filter_sublist.trans (List.take_sublist _ _)
      have hP2' : ∀ j, j < k + 1 → j < (growW es LS x mN j).length := fun j hj => by
        by_cases e : j = k
        · subst e; rw [← hP1, List.length_map]; exact hkP
        · exact hP2 j (by omega)
      have hk1 := (hgc.out (k + 1) hP2').1
      obtain ⟨aq, lq, cq, hq1, hq2⟩ : ∃ a n c, P[k].1 = Value.slice a n c ∧ n = P[k].2.1.length := by
        obtain ⟨_, ⟨h1, h2⟩ | ⟨g, off, cap, cur, h1, _⟩⟩ := hE
        · exact ⟨_, _, _, h1, by rw [h2]; rfl⟩
        · exact ⟨_, _, _, h1, rfl⟩
      obtain ⟨qp, hqp⟩ : ∃ q, q = P[k] := ⟨_, rfl⟩
      rw [← hqp] at d0 d1 hE hgw hnx htf hq1 hq2
      obtain ⟨qv, wd, y⟩ := qp
      simp only at d0 d1 hE hgw hnx htf hq1 hq2
      subst hq1
      obtain ⟨U, hU⟩ : ∃ U, U = (P.take k).filter fun p => p.2.2 == x := ⟨_, rfl⟩
      rw [← hU] at hst htf
      have hUl : U.length ≤ 1555 := by
        have h1 : U.length ≤ P.length := by rw [hU]; exact (List.filter_sublist.trans (List.take_sublist _ _)).length_le
        omega
      replace hgt := hidI hgt
      replace hnx := hidI hnx
      replace hP1 := hidI hP1
      replace hP2' := hidI hP2'
      replace hqp := hidI hqp
      replace hq2 := hidI hq2
      replace hp := hidI hp
      replace hk := hidI hk
      replace hU := hidI hU
      replace hgw := hidI hgw
      replace hPP := hidI hPP
      by_cases hend : y = x
      · have t0 : (y == x) = true := by rw [beq_iff_eq]; exact hend
        rw [if_pos t0] at htf
        replace htf := hidI htf
        replace hend := hidI hend
        have hstH := hidI hst
        have hownl := hidI hst.2.2.1
        clear hst
        go_wp2_with (at_builtin; go_must (refine wpList_pushW_at rfl _ _ rfl w3.heap.size (.slice a9 m9 c9) (U.map (·.1)) aq lq cq rfl rfl (by exact hownl.out) (by rw [List.length_map]; omega) hb.out.size ?_))
        intro v' w9 hown9 hg9 hloc9
        obtain ⟨b9, n9, e9, rfl⟩ : ∃ a m c, v' = Value.slice a m c := by
          obtain ⟨_, ⟨h1, _⟩ | ⟨g, cap, cur, h1, _⟩⟩ := hown9 <;> exact ⟨_, _, _, h1⟩
        have hst9 := LoopSt.loop (p := (.slice aq lq cq, (wd, y))) hstH.out (by rw [← htf.out]; exact hsb) hown9 hg9 hloc9
        rw [← htf.out] at hst9
        have hb9 := hidI (show Below w3.heap.size w3 w9 from (hb.out.alloc hb.out.size _).grown hg9 (by have := hb.out.size; simp; omega) (fun q hq => (World.ownsRow.lt hownl.out q hq).1))
        have hE9 : RowI w9 w3.heap.size w9.heap.size (.slice aq lq cq) wd := by
          have := (hst9.2.1.1 P[k] (List.getElem_mem hkP)).1
          rw [← hqp.out] at this
          exact this
        clear hown9 hg9 hloc9 d0 d1 g0r hownl hb hE
        have g0q := below_cell g0 hb9.out hl3a
        obtain ⟨gq, cq', hvq, _, hgqb, e0, e1⟩ := OwnsP.at_ hst9.1 k hkP
        simp only [Value.slice.injEq, Option.some.injEq, Addr.mk.injEq, and_true] at hvq
        obtain ⟨rfl, hzq, rfl⟩ := hvq
        clear hzq
        rw [← hqp.out] at e0 e1
        simp only at e0 e1
        by_cases hml : lq < mN
        · have hmi : (lq : Int) < (mN : Int) := by omega
          have hkd : kidsTo es LS mN (wd, y) = kids es LS (wd, y) := by unfold kidsTo; rw [if_pos (by show wd.length < mN; rw [← hq2.out]; exact hml)]
          have hbd : Below w9.heap.size w9 w9.drew := (Below.refl _ _).drew
          have hrdq := hE9.read
          have hcl := hlong.out w9.drew aq cq wd y ((hb23.out.trans (hb9.out.mono hb23.out.size)).trans (hbd.mono (Nat.le_trans hb23.out.size hb9.out.size))) (by rw [← hq2.out]; exact hrdq.below hbd) (by have := hgw.out.1; simp only at this; omega) hgw.out.2.1 hgw.out.2.2
          rw [← hq2.out] at hcl
          replace hkd := hidI hkd
          have hstq := hidI hst9
          clear hst9
          replace hE9 := hidI hE9
          replace hrdq := hidI hrdq
          replace hbd := hidI hbd
          obtain ⟨wd, hwd⟩ : ∃ z, z = w9.drew := ⟨_, rfl⟩
          rw [← hwd] at hcl hbd
          have g0d : wd.cell? ⟨w.heap.size, 0, none⟩ = some (.int .i64 (rN : Int)) := by rw [hwd]; exact g0q
          have e0d : wd.cell? ⟨g10, k * 2, none⟩ = some (.slice aq lq cq) := by rw [hwd]; exact e0
          have e1d : wd.cell? ⟨g10, k * 2 + 1, none⟩ = some (.int .i64 y) := by rw [hwd]; exact e1
          have hsd : wd.heap.size = w9.heap.size := by rw [hwd]; rfl
          replace hwd := hidI hwd
          replace hsd := hidI hsd
          go_upto_region 12 with fail
          clear e0 e1 g0q
          refine hideQ (fun _ _ d _ _ h => by cases d <;> exact h) (fun Q' hnorm hpan => ?_)
          refine wp_region_held_drew (S := (fun z => z.cell? ⟨w.heap.size, 0, none⟩ = some (.int .i64 (rN : Int)))) (by kernel_rfl) ?_ (fun hHeld => ?_)
          · try dsimp only
            rw [← hwd.out]
            assumption
          rw [← hwd.out] at hHeld ⊢
          refine take_at 0 65 (v := ?_) rfl (by kernel_rfl) (by kernel_rfl) (by kernel_rfl) (by kernel_rfl) hpan (Or.inl ⟨by rfl, ?_⟩) (by assumption) ?_
          rotate_left
          · intro w hSw; (try dsimp only at hSw); go_simp; with_reducible rfl
          simp only [Act.put, List.setIfInBounds_toArray, List.set_cons_zero, List.set_cons_succ]
          refine take_at 1 66 (v := ?_) rfl (by kernel_rfl) (by kernel_rfl) (by kernel_rfl) (by kernel_rfl) hpan (Or.inl ⟨by rfl, ?_⟩) (by assumption) ?_
          rotate_left
          · intro w hSw; (try dsimp only at hSw); go_simp; with_reducible rfl
          simp only [Act.put, List.setIfInBounds_toArray, List.set_cons_zero, List.set_cons_succ]
          refine take_at 2 67 (v := ?_) rfl (by kernel_rfl) (by kernel_rfl) (by kernel_rfl) (by kernel_rfl) hpan (Or.inl ⟨by rfl, ?_⟩) (by assumption) ?_
          rotate_left
          · intro w hSw; (try dsimp only at hSw); go_simp; with_reducible rfl
          simp only [Act.put, List.setIfInBounds_toArray, List.set_cons_zero, List.set_cons_succ]
          refine take_at 3 68 (v := ?_) rfl (by kernel_rfl) (by kernel_rfl) (by kernel_rfl) (by kernel_rfl) hpan (Or.inl ⟨by rfl, ?_⟩) (by assumption) ?_
          rotate_left
          · intro w hSw; (try dsimp only at hSw); go_simp; with_reducible rfl
          simp only [Act.put, List.setIfInBounds_toArray, List.set_cons_zero, List.set_cons_succ]
          refine take_at 4 69 (v := ?_) rfl (by kernel_rfl) (by kernel_rfl) (by kernel_rfl) (by kernel_rfl) hpan (Or.inl ⟨by rfl, ?_⟩) (by assumption) ?_
          rotate_left
          · intro w hSw; (try dsimp only at hSw); go_simp; with_reducible rfl
          simp only [Act.put, List.setIfInBounds_toArray, List.set_cons_zero, List.set_cons_succ]
          refine take_at 5 70 (v := ?_) rfl (by kernel_rfl) (by kernel_rfl) (by kernel_rfl) (by kernel_rfl) hpan (Or.inl ⟨by rfl, ?_⟩) (by assumption) ?_
          rotate_left
          · intro w hSw; (try dsimp only at hSw); go_simp; with_reducible rfl
          simp only [Act.put, List.setIfInBounds_toArray, List.set_cons_zero, List.set_cons_succ]
          refine take_at 6 71 (v := ?_) rfl (by kernel_rfl) (by kernel_rfl) (by kernel_rfl) (by kernel_rfl) hpan (Or.inl ⟨by rfl, ?_⟩) (by assumption) ?_
          rotate_left
          · intro w hSw; (try dsimp only at hSw); go_simp; with_reducible rfl
          simp only [Act.put, List.setIfInBounds_toArray, List.set_cons_zero, List.set_cons_succ]
          refine wpAnyH_ready (rs := [7]) (by kernel_rfl) (by simp) ?_
          refine AllReadyH.cons rfl (fun K hK => ?_) AllReadyH.nil
          rw [if_pos (by rfl)]
          go_simp
          skip
          refine hK.out _ _ ?_ (fun hHeld => ?_)
          · try dsimp only
            assumption
          clear hK
          try simp only [Act.put, List.setIfInBounds_toArray, List.set_cons_zero, List.set_cons_succ]
          refine wpAnyH_ready (rs := [8]) (by kernel_rfl) (by simp) ?_
          refine AllReadyH.cons rfl (fun K hK => ?_) AllReadyH.nil
          rw [if_pos (by rfl)]
          go_simp
          go_at_call 49
          (with_reducible refine hcl.mono ?_)
          rintro e w5 ⟨v2, P2, rfl, hK2, hO2, hE2, hb5⟩
          obtain ⟨a2, m2, c2, rfl⟩ : ∃ a m c, v2 = Value.slice a m c := by
            obtain ⟨_, ⟨h1, _⟩ | ⟨g, cap, cur, h1, _⟩⟩ := hO2 <;> exact ⟨_, _, _, h1⟩
          clear hcl
          have hb5' : Below w9.heap.size w9 w5 := hbd.out.trans (hb5.mono (by have := hsd.out; omega))
          have hst5 := hstq.out.below hb5'
          have hown5 := hidI hst5.1
          have hone : ∀ p ∈ P2, p.1.oneCell' = true := fun p hp => (hE2.1 p hp).1.one
          have hP2l : P2.length ≤ 1555 := by
            have h1 := (hgc.out (k + 1) hP2'.out).2
            rw [hnx.out, hkd.out, List.length_append, ← hK2, List.length_map] at h1
            omega
          have hbase5 : w3.heap.size ≤ w5.heap.size := Nat.le_trans hb9.out.size hb5'.size
          have g05 := below_cell g0d hb5 (by have := hsd.out; have := hb9.out.size; omega)
          replace hK2 := hidI hK2
          replace hO2 := hidI hO2
          replace hE2 := hidI hE2
          replace hb5 := hidI hb5
          replace hb5' := hidI hb5'
          replace hst5 := hidI hst5
          replace hone := hidI hone
          clear e0d e1d g0d
          refine hK.out _ _ ?_ (fun hHeld => ?_)
          · try dsimp only
            assumption
          clear hK
          try simp only [Act.put, List.setIfInBounds_toArray, List.set_cons_zero, List.set_cons_succ]
          refine wpAnyH_ready (rs := [9]) (by kernel_rfl) (by simp) ?_
          refine AllReadyH.cons rfl (fun K hK => ?_) AllReadyH.nil
          rw [if_pos (by rfl)]
          refine step_pushAllP_at _ _ rfl w3.heap.size wd.heap.size (.slice (some ⟨g10, 0, none⟩) p c10) (.slice a2 m2 c2) P P2 rfl rfl hown5.out hO2.out hone.out (by have := hp.out; omega) hbase5 ?_
          intro v' w8 hown8 hg8 hloc8
          have hst8 := LoopSt.more (w := w9) (w1 := w5) hstq.out hb9.out.size hb5'.out (by have := hE2.out; rw [hsd.out] at this; exact this) hown8 hg8 hloc8
          have hPP8 := hidI (show ∃ P : List (Value × Wa), P.map (·.2) = growW es LS x mN (k + 1) ∧ (∀ j, j < k + 1 → j < (growW es LS x mN j).length) ∧ LoopSt w8 w3.heap.size v' (.slice b9 n9 e9) P ((P.take (k + 1)).filter fun p => p.2.2 == x) from
            ⟨P ++ P2, by rw [List.map_append, hP1.out, hK2.out, hnx.out, hkd.out], hP2'.out, by rw [List.take_append_of_le_length (by have := hp.out; omega)]; exact hst8⟩)
          have hb8 := hidI (show Below w3.heap.size w3 w8 from (hb9.out.trans (hb5'.out.mono hb9.out.size)).grown hg8 hbase5 (fun q hq => (World.ownsRow.lt hown5.out q hq).1))
          have g08 := below_cell g0 hb8.out hl3a
          clear hown8 hg8 hloc8 hst8 g05
          refine hK.out _ _ ?_ (fun hHeld => ?_)
          · try dsimp only
            assumption
          clear hK
          try simp only [Act.put, List.setIfInBounds_toArray, List.set_cons_zero, List.set_cons_succ]
          refine take_at 10 10 (v := ?_) rfl (by kernel_rfl) (by kernel_rfl) (by kernel_rfl) (by kernel_rfl) hpan (Or.inl ⟨by rfl, ?_⟩) (by assumption) ?_
          rotate_left
          · intro w hSw; (try dsimp only at hSw); go_simp; with_reducible rfl
          simp only [Act.put, List.setIfInBounds_toArray, List.set_cons_zero, List.set_cons_succ]
          refine wpAnyH_done (by kernel_rfl) ?_ _
          refine hnorm _ _ ?_
          clear hnorm hpan
          repeat clear hHeld
          try simp only [Exit.then]
          go_wp2
          go_roundg (1556 - (k + 1))
          case rel => exact ⟨k + 1, by have := hk.out; omega, by go_num, hPP8, hb8⟩
          case measure => have := hk.out; omega
        · have hmi : ¬ (lq : Int) < (mN : Int) := by omega
          have hkd : kidsTo es LS mN (wd, y) = [] := by unfold kidsTo; rw [if_neg (by show ¬ wd.length < mN; rw [← hq2.out]; exact hml)]
          have hPP8 := hidI (show ∃ P : List (Value × Wa), P.map (·.2) = growW es LS x mN (k + 1) ∧ (∀ j, j < k + 1 → j < (growW es LS x mN j).length) ∧ LoopSt w9 w3.heap.size (.slice (some ⟨g10, 0, none⟩) p c10) (.slice b9 n9 e9) P ((P.take (k + 1)).filter fun p => p.2.2 == x) from
            ⟨P, by rw [hnx.out, hkd, List.append_nil]; exact hP1.out, hP2'.out, hst9⟩)
          replace hkd := hidI hkd
          replace hst9 := hidI hst9
          replace hE9 := hidI hE9
          go_wp2
          go_roundg (1556 - (k + 1))
          case rel => exact ⟨k + 1, by have := hk.out; omega, by go_num, hPP8, hb9⟩
          case measure => have := hk.out; omega
      · have t0 : (y == x) = false := by rw [beq_eq_false_iff_ne]; exact hend
        rw [if_neg (by rw [t0]; simp), List.append_nil] at htf
        rw [← htf] at hst
        replace htf := hidI htf
        replace hend := hidI hend
        have g0q := below_cell g0 hb.out hl3a
        obtain ⟨gq, cq', hvq, _, hgqb, e0, e1⟩ := OwnsP.at_ hst.1 k hkP
        simp only [Value.slice.injEq, Option.some.injEq, Addr.mk.injEq, and_true] at hvq
        obtain ⟨rfl, hzq, rfl⟩ := hvq
        clear hzq
        rw [← hqp.out] at e0 e1
        simp only at e0 e1
        by_cases hml : lq < mN
        · have hmi : (lq : Int) < (mN : Int) := by omega
          have hkd : kidsTo es LS mN (wd, y) = kids es LS (wd, y) := by unfold kidsTo; rw [if_pos (by show wd.length < mN; rw [← hq2.out]; exact hml)]
          have hbd : Below wr.heap.size wr wr.drew := (Below.refl _ _).drew
          have hrdq := hE.read
          have hcl := hlong.out wr.drew aq cq wd y ((hb23.out.trans (hb.out.mono hb23.out.size)).trans (hbd.mono (Nat.le_trans hb23.out.size hb.out.size))) (by rw [← hq2.out]; exact hrdq.below hbd) (by have := hgw.out.1; simp only at this; omega) hgw.out.2.1 hgw.out.2.2
          rw [← hq2.out] at hcl
          replace hkd := hidI hkd
          have hstq := hidI hst
          clear hst
          replace hE := hidI hE
          replace hrdq := hidI hrdq
          replace hbd := hidI hbd
          obtain ⟨wd, hwd⟩ : ∃ z, z = wr.drew := ⟨_, rfl⟩
          rw [← hwd] at hcl hbd
          have g0d : wd.cell? ⟨w.heap.size, 0, none⟩ = some (.int .i64 (rN : Int)) := by rw [hwd]; exact g0q
          have e0d : wd.cell? ⟨g10, k * 2, none⟩ = some (.slice aq lq cq) := by rw [hwd]; exact e0
          have e1d : wd.cell? ⟨g10, k * 2 + 1, none⟩ = some (.int .i64 y) := by rw [hwd]; exact e1
          have hsd : wd.heap.size = wr.heap.size := by rw [hwd]; rfl
          replace hwd := hidI hwd
          replace hsd := hidI hsd
          go_upto_region 12 with fail
          clear e0 e1 g0q
          refine hideQ (fun _ _ d _ _ h => by cases d <;> exact h) (fun Q' hnorm hpan => ?_)
          refine wp_region_held_drew (S := (fun z => z.cell? ⟨w.heap.size, 0, none⟩ = some (.int .i64 (rN : Int)))) (by kernel_rfl) ?_ (fun hHeld => ?_)
          · try dsimp only
            rw [← hwd.out]
            assumption
          rw [← hwd.out] at hHeld ⊢
          refine take_at 0 65 (v := ?_) rfl (by kernel_rfl) (by kernel_rfl) (by kernel_rfl) (by kernel_rfl) hpan (Or.inl ⟨by rfl, ?_⟩) (by assumption) ?_
          rotate_left
          · intro w hSw; (try dsimp only at hSw); go_simp; with_reducible rfl
          simp only [Act.put, List.setIfInBounds_toArray, List.set_cons_zero, List.set_cons_succ]
          refine take_at 1 66 (v := ?_) rfl (by kernel_rfl) (by kernel_rfl) (by kernel_rfl) (by kernel_rfl) hpan (Or.inl ⟨by rfl, ?_⟩) (by assumption) ?_
          rotate_left
          · intro w hSw; (try dsimp only at hSw); go_simp; with_reducible rfl
          simp only [Act.put, List.setIfInBounds_toArray, List.set_cons_zero, List.set_cons_succ]
          refine take_at 2 67 (v := ?_) rfl (by kernel_rfl) (by kernel_rfl) (by kernel_rfl) (by kernel_rfl) hpan (Or.inl ⟨by rfl, ?_⟩) (by assumption) ?_
          rotate_left
          · intro w hSw; (try dsimp only at hSw); go_simp; with_reducible rfl
          simp only [Act.put, List.setIfInBounds_toArray, List.set_cons_zero, List.set_cons_succ]
          refine take_at 3 68 (v := ?_) rfl (by kernel_rfl) (by kernel_rfl) (by kernel_rfl) (by kernel_rfl) hpan (Or.inl ⟨by rfl, ?_⟩) (by assumption) ?_
          rotate_left
          · intro w hSw; (try dsimp only at hSw); go_simp; with_reducible rfl
          simp only [Act.put, List.setIfInBounds_toArray, List.set_cons_zero, List.set_cons_succ]
          refine take_at 4 69 (v := ?_) rfl (by kernel_rfl) (by kernel_rfl) (by kernel_rfl) (by kernel_rfl) hpan (Or.inl ⟨by rfl, ?_⟩) (by assumption) ?_
          rotate_left
          · intro w hSw; (try dsimp only at hSw); go_simp; with_reducible rfl
          simp only [Act.put, List.setIfInBounds_toArray, List.set_cons_zero, List.set_cons_succ]
          refine take_at 5 70 (v := ?_) rfl (by kernel_rfl) (by kernel_rfl) (by kernel_rfl) (by kernel_rfl) hpan (Or.inl ⟨by rfl, ?_⟩) (by assumption) ?_
          rotate_left
          · intro w hSw; (try dsimp only at hSw); go_simp; with_reducible rfl
          simp only [Act.put, List.setIfInBounds_toArray, List.set_cons_zero, List.set_cons_succ]
          refine take_at 6 71 (v := ?_) rfl (by kernel_rfl) (by kernel_rfl) (by kernel_rfl) (by kernel_rfl) hpan (Or.inl ⟨by rfl, ?_⟩) (by assumption) ?_
          rotate_left
          · intro w hSw; (try dsimp only at hSw); go_simp; with_reducible rfl
          simp only [Act.put, List.setIfInBounds_toArray, List.set_cons_zero, List.set_cons_succ]
          refine wpAnyH_ready (rs := [7]) (by kernel_rfl) (by simp) ?_
          refine AllReadyH.cons rfl (fun K hK => ?_) AllReadyH.nil
          rw [if_pos (by rfl)]
          go_simp
          skip
          refine hK.out _ _ ?_ (fun hHeld => ?_)
          · try dsimp only
            assumption
          clear hK
          try simp only [Act.put, List.setIfInBounds_toArray, List.set_cons_zero, List.set_cons_succ]
          refine wpAnyH_ready (rs := [8]) (by kernel_rfl) (by simp) ?_
          refine AllReadyH.cons rfl (fun K hK => ?_) AllReadyH.nil
          rw [if_pos (by rfl)]
          go_simp
          go_at_call 49
          (with_reducible refine hcl.mono ?_)
          rintro e w5 ⟨v2, P2, rfl, hK2, hO2, hE2, hb5⟩
          obtain ⟨a2, m2, c2, rfl⟩ : ∃ a m c, v2 = Value.slice a m c := by
            obtain ⟨_, ⟨h1, _⟩ | ⟨g, cap, cur, h1, _⟩⟩ := hO2 <;> exact ⟨_, _, _, h1⟩
          clear hcl
          have hb5' : Below wr.heap.size wr w5 := hbd.out.trans (hb5.mono (by have := hsd.out; omega))
          have hst5 := hstq.out.below hb5'
          have hown5 := hidI hst5.1
          have hone : ∀ p ∈ P2, p.1.oneCell' = true := fun p hp => (hE2.1 p hp).1.one
          have hP2l : P2.length ≤ 1555 := by
            have h1 := (hgc.out (k + 1) hP2'.out).2
            rw [hnx.out, hkd.out, List.length_append, ← hK2, List.length_map] at h1
            omega
          have hbase5 : w3.heap.size ≤ w5.heap.size := Nat.le_trans hb.out.size hb5'.size
          have g05 := below_cell g0d hb5 (by have := hsd.out; have := hb.out.size; omega)
          replace hK2 := hidI hK2
          replace hO2 := hidI hO2
          replace hE2 := hidI hE2
          replace hb5 := hidI hb5
          replace hb5' := hidI hb5'
          replace hst5 := hidI hst5
          replace hone := hidI hone
          clear e0d e1d g0d
          refine hK.out _ _ ?_ (fun hHeld => ?_)
          · try dsimp only
            assumption
          clear hK
          try simp only [Act.put, List.setIfInBounds_toArray, List.set_cons_zero, List.set_cons_succ]
          refine wpAnyH_ready (rs := [9]) (by kernel_rfl) (by simp) ?_
          refine AllReadyH.cons rfl (fun K hK => ?_) AllReadyH.nil
          rw [if_pos (by rfl)]
          refine step_pushAllP_at _ _ rfl w3.heap.size wd.heap.size (.slice (some ⟨g10, 0, none⟩) p c10) (.slice a2 m2 c2) P P2 rfl rfl hown5.out hO2.out hone.out (by have := hp.out; omega) hbase5 ?_
          intro v' w8 hown8 hg8 hloc8
          have hst8 := LoopSt.more (w := wr) (w1 := w5) hstq.out hb.out.size hb5'.out (by have := hE2.out; rw [hsd.out] at this; exact this) hown8 hg8 hloc8
          have hPP8 := hidI (show ∃ P : List (Value × Wa), P.map (·.2) = growW es LS x mN (k + 1) ∧ (∀ j, j < k + 1 → j < (growW es LS x mN j).length) ∧ LoopSt w8 w3.heap.size v' (.slice a9 m9 c9) P ((P.take (k + 1)).filter fun p => p.2.2 == x) from
            ⟨P ++ P2, by rw [List.map_append, hP1.out, hK2.out, hnx.out, hkd.out], hP2'.out, by rw [List.take_append_of_le_length (by have := hp.out; omega)]; exact hst8⟩)
          have hb8 := hidI (show Below w3.heap.size w3 w8 from (hb.out.trans (hb5'.out.mono hb.out.size)).grown hg8 hbase5 (fun q hq => (World.ownsRow.lt hown5.out q hq).1))
          have g08 := below_cell g0 hb8.out hl3a
          clear hown8 hg8 hloc8 hst8 g05
          refine hK.out _ _ ?_ (fun hHeld => ?_)
          · try dsimp only
            assumption
          clear hK
          try simp only [Act.put, List.setIfInBounds_toArray, List.set_cons_zero, List.set_cons_succ]
          refine take_at 10 10 (v := ?_) rfl (by kernel_rfl) (by kernel_rfl) (by kernel_rfl) (by kernel_rfl) hpan (Or.inl ⟨by rfl, ?_⟩) (by assumption) ?_
          rotate_left
          · intro w hSw; (try dsimp only at hSw); go_simp; with_reducible rfl
          simp only [Act.put, List.setIfInBounds_toArray, List.set_cons_zero, List.set_cons_succ]
          refine wpAnyH_done (by kernel_rfl) ?_ _
          refine hnorm _ _ ?_
          clear hnorm hpan
          repeat clear hHeld
          try simp only [Exit.then]
          go_wp2
          go_roundg (1556 - (k + 1))
          case rel => exact ⟨k + 1, by have := hk.out; omega, by go_num, hPP8, hb8⟩
          case measure => have := hk.out; omega
        · have hmi : ¬ (lq : Int) < (mN : Int) := by omega
          have hkd : kidsTo es LS mN (wd, y) = [] := by unfold kidsTo; rw [if_neg (by show ¬ wd.length < mN; rw [← hq2.out]; exact hml)]
          have hPP8 := hidI (show ∃ P : List (Value × Wa), P.map (·.2) = growW es LS x mN (k + 1) ∧ (∀ j, j < k + 1 → j < (growW es LS x mN j).length) ∧ LoopSt wr w3.heap.size (.slice (some ⟨g10, 0, none⟩) p c10) (.slice a9 m9 c9) P ((P.take (k + 1)).filter fun p => p.2.2 == x) from
            ⟨P, by rw [hnx.out, hkd, List.append_nil]; exact hP1.out, hP2'.out, hst⟩)
          replace hkd := hidI hkd
          replace hst := hidI hst
          replace hE := hidI hE
          go_wp2
          go_roundg (1556 - (k + 1))
          case rel => exact ⟨k + 1, by have := hk.out; omega, by go_num, hPP8, hb⟩
          case measure => have := hk.out; omega
    · have hki : ¬ (k : Int) < (p : Int) := by omega
      have hend := hge.out k hP2 (by rw [← hP1, List.length_map]; omega)
      have htk : P.take k = P := List.take_of_length_le (by omega)
      rw [htk] at hst
      have hlen : ((P.filter fun p => p.2.2 == x)).length ≤ 1000000000 := by
        have := (List.filter_sublist (p := fun p : Value × Wa => p.2.2 == x) (l := P)).length_le
        omega
      have hrow := hst.done hlen
      have hzz : (P.filter fun p => p.2.2 == x).map (·.2.1) = F := by
        rw [hFL.out]
        unfold loopsL
        rw [← hend, ← hP1, List.filter_map, List.map_map]
        rfl
      rw [hzz] at hrow
      have hr : LwWords w F (.returned (.slice a9 m9 c9)) wr := ⟨_, _, rfl, hrow.wide hb13.out.size (Nat.le_refl _), hb13.out.trans (hb.out.mono hb13.out.size)⟩
      replace hr := hidI hr
      replace hP1 := hidI hP1
      replace hend := hidI hend
      replace htk := hidI htk
      replace hp := hidI hp
      replace hk := hidI hk
      replace hst := hidI hst
      replace hrow := hidI hrow
      replace hzz := hidI hzz
      go_wp2
      go_ret
      exact hr.out
end Go.Proofs.Ytmecdboeckmmfaa
