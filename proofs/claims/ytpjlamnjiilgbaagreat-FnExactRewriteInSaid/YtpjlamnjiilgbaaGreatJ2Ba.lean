import Derived.Laws.AppendOwn
import Derived.Laws.AppendOwnNone
import Derived.Maps.AppendAt
import Derived.Deep.Slices
import Derived.ChangeSlices
import Derived.Test.YtpjlamnjiilgbaaGreatJ1Ba
import Derived.Test.YtpjlamnjiilgbaaGreatJ0Ba
namespace Go.Proofs.YtpjlamnjiilgbaaGreat
open Go.RowKit
set_option linter.unusedVariables false
set_option linter.unusedSimpArgs false
def ReadSS (B : Nat) (w : World) (v : Value) (zss : List (List Int)) : Prop :=
 zss.length ≤ 1000000000000 ∧ ∃ a cap, v = .slice a zss.length cap ∧ ((a = none → cap = 0) ∧ zss.length ≤ cap) ∧ (zss = [] ∨ ∃ b off, a = some ⟨b, off, none⟩ ∧ b < B ∧ ∀ i, i < zss.length → ∃ u, w.cell? ⟨b, off + i, none⟩ = some u ∧ ReadI B w u (zss.getD i []))
theorem ReadSS.below {B : Nat} {w w' : World} {v : Value} {zss : List (List Int)} (h : ReadSS B w v zss) (hb : Below B w w') : ReadSS B w' v zss := by
 obtain ⟨hl, a, cap, hv, hn, hc⟩ := h
 refine ⟨hl, a, cap, hv, hn, hc.imp id ?_⟩
 rintro ⟨b, off, ha, hB, hcell⟩
 refine ⟨b, off, ha, hB, fun i hi => ?_⟩
 obtain ⟨u, h1, h2⟩ := hcell i hi
 exact ⟨u, by rw [hb.cell (p := ⟨b, off + i, none⟩) hB]; exact h1, h2.below hb⟩
theorem ReadSS.mono {B B' : Nat} {w : World} {v : Value} {zss : List (List Int)} (h : ReadSS B w v zss) (hB : B ≤ B') : ReadSS B' w v zss := by
 obtain ⟨hl, a, cap, hv, hn, hc⟩ := h
 refine ⟨hl, a, cap, hv, hn, hc.imp id ?_⟩
 rintro ⟨b, off, ha, hb, hcell⟩
 refine ⟨b, off, ha, by omega, fun i hi => ?_⟩
 obtain ⟨u, h1, h2⟩ := hcell i hi
 exact ⟨u, h1, h2.mono hB⟩
theorem ReadSS.at_ {B : Nat} {w : World} {a : Option Addr} {n cap : Nat} {zss : List (List Int)} (h : ReadSS B w (.slice a n cap) zss) (i : Nat) (hi : i < zss.length) :
 ∃ b off u, a = some ⟨b, off, none⟩ ∧ b < B ∧ w.cell? ⟨b, off + i, none⟩ = some u ∧ ReadI B w u (zss.getD i []) := by
 obtain ⟨_, a', cap', hv, _, hr⟩ := h
 simp only [Value.slice.injEq] at hv
 obtain ⟨rfl, _, rfl⟩ := hv
 rcases hr with h0 | ⟨b, off, ha, hB, hc⟩
 · rw [h0] at hi; simp at hi
 · obtain ⟨u, h1, h2⟩ := hc i hi
   exact ⟨b, off, u, ha, hB, h1, h2⟩
set_option maxHeartbeats 1600000 in
theorem eqSS_same (w : World) (B : Nat) (v1 v2 : Value) (zss : List (List Int)) (h1 : ReadSS B w v1 zss) (h2 : ReadSS B w v2 zss) :
 Calls Tryz.prog 19 #[v1, v2] w (BoolRet w true) := by
 have h1' := h1
 have h2' := h2
 obtain ⟨hl, a1, cap1, rfl, _, _⟩ := h1'
 obtain ⟨_, a2, cap2, rfl, _, _⟩ := h2'
 obtain ⟨n, hn⟩ := exq zss.length
 rw [← hn] at hl h1 h2 ⊢
 have hcl : ((n : Int) != (n : Int)) = false := by simp
 replace hn := hidI hn
 replace h1 := hidI h1
 replace h2 := hidI h2
 go_enter Tryz.func19, Tryz.ntmps19
 go_wp2
 go_loopg [5] n (fun g i wr => ∃ k m : Nat, k + g = n ∧ i = .int .i64 k ∧ Hid (wr = w.drewN m))
 case atStart => exact ⟨0, 0, by omega, rfl, hidI rfl⟩
 case round =>
  obtain ⟨k, m, hk, rfl, hw⟩ := hrel
  by_cases hlt : k < n
  · have hki : (k : Int) < (n : Int) := by omega
    obtain ⟨b1, o1, u1, rfl, hb1, c1, r1⟩ := h1.out.at_ k (by have := hn.out; omega)
    obtain ⟨b2, o2, u2, rfl, hb2, c2, r2⟩ := h2.out.at_ k (by have := hn.out; omega)
    obtain ⟨wd, hwd⟩ := exq wr.drew
    have hwd2 : wd = w.drewN (m + 1) := by rw [hwd, hw.out]; rfl
    have d0 : wd.cell? ⟨b1, o1 + k, none⟩ = some u1 := by rw [hwd2]; exact c1
    have d1 : wd.cell? ⟨b2, o2 + k, none⟩ = some u2 := by rw [hwd2]; exact c2
    have hcall := eqIntS_same wd B u1 u2 (zss.getD k []) (by rw [hwd2]; exact r1) (by rw [hwd2]; exact r2)
    replace hwd := hidI hwd
    replace hwd2 := hidI hwd2
    replace hk := hidI hk
    clear c1 c2 r1 r2
    go_wp2
    refine hideQ (fun _ _ d _ _ h => by cases d <;> exact h) (fun Q' hnorm hpan => ?_)
    refine wp_region_held_drew (S := (fun z => z.cell? ⟨b1, o1 + k, none⟩ = some u1 ∧ z.cell? ⟨b2, o2 + k, none⟩ = some u2)) (by kernel_rfl) ?_ (fun hHeld => ?_)
    · try dsimp only
      rw [← hwd.out]
      ((repeat' apply And.intro) <;> assumption)
    rw [← hwd.out] at hHeld ⊢
    refine tk 0 17 ?_
    refine tk 1 18 ?_
    refine tk 2 19 ?_
    refine tk 3 20 ?_
    refine tk 4 21 ?_
    refine tk 5 22 ?_
    refine tk 6 23 ?_
    refine tk 7 24 ?_
    refine rd 8 (fun K hK => ?_)
    rw [if_pos (by rfl)]
    go_simp
    go_at_call 33
    (with_reducible refine hcall.mono ?_)
    rintro e w3 ⟨rfl, m3, rfl⟩
    have f0 : (wd.drewN m3).cell? ⟨b1, o1 + k, none⟩ = some u1 := d0
    have f1 : (wd.drewN m3).cell? ⟨b2, o2 + k, none⟩ = some u2 := d1
    refine hK.out _ _ ?_ (fun hHeld => ?_)
    · try dsimp only
      ((repeat' apply And.intro) <;> assumption)
    clear hK
    try simp only [Act.put, lyA, lyB, lyC]
    refine tk 9 26 ?_
    refine wpAnyH_done (by kernel_rfl) ?_ _
    refine hnorm _ _ ?_
    clear hnorm hpan
    repeat clear hHeld
    try simp only [Exit.then]
    go_wp2
    go_roundg (n - (k + 1))
    case rel => exact ⟨k + 1, m + 1 + m3, by have := hk.out; omega, by go_num, hidI (by rw [hwd2.out, World.drewN_drewN])⟩
    case measure => have := hk.out; omega
  · obtain rfl : k = n := by omega
    have hki : ¬ (k : Int) < (k : Int) := by omega
    replace hk := hidI hk
    go_wp2
    go_ret
    exact ⟨ret_bool rfl, m, hw.out⟩
def marksSS (k : Int) : List Nat → List (List Int)
 | [] => []
 | n :: ns => marks k n :: marksSS (k + n) ns
def sumN : List Nat → Nat
 | [] => 0
 | n :: ns => n + sumN ns
theorem marksSS_length : ∀ (ns : List Nat) (k : Int), (marksSS k ns).length = ns.length := by
 intro ns
 induction ns with
 | nil => intro k; rfl
 | cons n ns ih => intro k; simp [marksSS, ih]
theorem marksSS_getD : ∀ (ns : List Nat) (k : Int) (i : Nat), i < ns.length → (marksSS k ns).getD i [] = marks (k + (sumN (ns.take i) : Nat)) (ns.getD i 0) := by
 intro ns
 induction ns with
 | nil => intro k i hi; simp at hi
 | cons n ns ih =>
  intro k i hi
  cases i with
  | zero => simp [marksSS, sumN]
  | succ i =>
   have := ih (k + n) i (by simpa using hi)
   rw [marksSS, List.getD_cons_succ, this, List.getD_cons_succ, List.take_succ_cons, sumN]
   congr 1
   push_cast
   omega
theorem sumN_take : ∀ (ns : List Nat) (i : Nat), i < ns.length → sumN (ns.take (i + 1)) = sumN (ns.take i) + ns.getD i 0 := by
 intro ns
 induction ns with
 | nil => intro i hi; simp at hi
 | cons n ns ih =>
  intro i hi
  cases i with
  | zero => simp [sumN]
  | succ i =>
   have := ih i (by simpa using hi)
   rw [List.take_succ_cons, sumN, this, List.take_succ_cons, sumN, List.getD_cons_succ]
   omega
theorem sumN_le : ∀ (ns : List Nat) (i : Nat), sumN (ns.take i) ≤ sumN ns := by
 intro ns
 induction ns with
 | nil => intro i; simp [sumN]
 | cons n ns ih =>
  intro i
  cases i with
  | zero => simp [sumN]
  | succ i => have := ih i; simp [sumN]; omega
set_option maxHeartbeats 1600000 in
theorem heldSS_any (w : World) (B : Nat) (v : Value) (ns : List Nat) (k0 : Int) (h : ReadSS B w v (marksSS k0 ns)) (hk : 0 ≤ k0) (hk2 : k0 + (sumN ns : Nat) ≤ 1000000000) :
 Calls Tryz.prog 23 #[v, .int .i64 k0] w fun e w' => e = .returned (.int .i64 (k0 + (sumN ns : Nat))) ∧ w = w' := by
 have h' := h
 obtain ⟨hl, a, cap, rfl, _, _⟩ := h'
 obtain ⟨n, hn⟩ := exq ((marksSS k0 ns).length)
 rw [← hn] at hl h ⊢
 have hnn : n = ns.length := by rw [hn, marksSS_length]
 replace hn := hidI hn
 replace h := hidI h
 replace hnn := hidI hnn
 go_enter Tryz.func23, Tryz.ntmps23
 go_wp2
 go_loopg [1, 5] n (fun g kk i wr => ∃ k : Nat, k + g = n ∧ i = .int .i64 k ∧ kk = .int .i64 (k0 + (sumN (ns.take k) : Nat)) ∧ Hid (wr = w))
 case atStart => exact ⟨0, by omega, rfl, by simp [sumN], hidI rfl⟩
 case round =>
  obtain ⟨k, hk9, rfl, rfl, hw⟩ := hrel
  have hw' := hw.out
  subst hw'
  have hsl := sumN_le ns k
  by_cases hlt : k < n
  · have hki : (k : Int) < (n : Int) := by omega
    obtain ⟨b, off, u, rfl, hb, c, r⟩ := h.out.at_ k (by have := hn.out; omega)
    have hkl : k < ns.length := by have := hnn.out; omega
    rw [marksSS_getD ns k0 k hkl] at r
    have hst := sumN_take ns k hkl
    have hsl2 := sumN_le ns (k + 1)
    have hcall := heldIntS_any wr B u (ns.getD k 0) (k0 + (sumN (ns.take k) : Nat)) r (by omega) (by omega) (by omega)
    obtain ⟨q, hq⟩ : ∃ q : Int, q = k0 + (sumN (ns.take k) : Nat) + (ns.getD k 0 : Nat) := ⟨_, rfl⟩
    have hq2 : q = k0 + (sumN (ns.take (k + 1)) : Nat) := by rw [hq, hst]; push_cast; omega
    have hq0 : ¬ q < 0 := by omega
    rw [← hq] at hcall
    replace hq := hidI hq
    replace hq2 := hidI hq2
    replace hst := hidI hst
    replace hk9 := hidI hk9
    replace r := hidI r
    obtain ⟨q0, hq9⟩ : ∃ q : Int, q = k0 + (sumN (ns.take k) : Nat) := ⟨_, rfl⟩
    rw [← hq9] at hcall ⊢
    replace hq9 := hidI hq9
    go_wp2_with fail
    refine hcall.mono ?_
    rintro e w3 ⟨rfl, rfl⟩
    clear hcall
    go_wp2
    go_roundg (n - (k + 1))
    case rel => exact ⟨k + 1, by have := hk9.out; omega, by go_num, by rw [hq2.out], hidI rfl⟩
    case measure => have := hk9.out; omega
  · obtain rfl : k = n := by omega
    have hki : ¬ (k : Int) < (k : Int) := by omega
    have hfull : ns.take k = ns := List.take_of_length_le (by have := hnn.out; omega)
    rw [hfull]
    replace hfull := hidI hfull
    replace hk9 := hidI hk9
    go_wp2
    go_ret
    exact ⟨ret_i rfl, rfl⟩
def RowSS (w : World) (lo hi : Nat) (v : Value) (us : List Value) (zss : List (List Int)) : Prop :=
 us.length = zss.length ∧ zss.length ≤ 1000000000 ∧ ((v = .slice none 0 0 ∧ zss = []) ∨ ∃ g off cap cur, v = .slice (some ⟨g, off, none⟩) zss.length cap ∧ lo ≤ g ∧ g < hi ∧ zss.length ≤ cap ∧ w.heap[g]? = some (.cells cur 46 (0, 0)) ∧
  (∀ i, i < zss.length → cur[off + i]? = some (us.getD i undef)) ∧ (∀ i b, i < zss.length → (us.getD i undef).ownBlock = some b → b ≠ g)) ∧
 (∀ i, i < zss.length → RowI w lo hi (us.getD i undef) (zss.getD i [])) ∧
 (∀ i j b, i < zss.length → j < zss.length → i ≠ j → (us.getD i undef).ownBlock = some b → (us.getD j undef).ownBlock ≠ some b)
theorem RowI.block {w : World} {lo hi : Nat} {v : Value} {zs : List Int} (h : RowI w lo hi v zs) : (v = .slice none 0 0 ∧ zs = []) ∨ ∃ b, v.ownBlock = some b ∧ lo ≤ b ∧ b < hi ∧ RowI w b (b + 1) v zs := by
 obtain ⟨hl, h1 | ⟨g, off, cap, cur, rfl, h1, h2, h3⟩⟩ := h
 · exact .inl h1
 · exact .inr ⟨g, rfl, h1, h2, hl, .inr ⟨g, off, cap, cur, rfl, Nat.le_refl _, Nat.lt_succ_self _, h3⟩⟩
theorem RowSS.put {w w' : World} {lo hi : Nat} {v : Value} {us : List Value} {zss : List (List Int)} (h : RowSS w lo hi v us zss) (i : Nat) (hi' : i < zss.length) (zs : List Int) {b : Nat} (hb : (us.getD i undef).ownBlock = some b) (hlo : lo ≤ b) (hhi : b < hi) (ho : Only b (b + 1) w w') (hr : RowI w' b (b + 1) (us.getD i undef) zs) :
 RowSS w' lo hi v us (zss.set i zs) := by
 obtain ⟨h1, h2, h3, h4, h5⟩ := h
 have hne : ∀ j, j ≠ i → (zss.set i zs).getD j [] = zss.getD j [] := fun j hj => by
  rw [List.getD_eq_getElem?_getD, List.getElem?_set_ne (Ne.symm hj), List.getD_eq_getElem?_getD]
 have heq : (zss.set i zs).getD i [] = zs := by
  rw [List.getD_eq_getElem?_getD, List.getElem?_set_self hi']; rfl
 refine ⟨by rw [List.length_set]; exact h1, by rw [List.length_set]; exact h2, ?_, fun j hj => ?_, fun a c d ha hc => by rw [List.length_set] at ha hc; exact h5 a c d ha hc⟩
 · rcases h3 with ⟨_, h0⟩ | ⟨g, off, cap, cur, rfl, q1, q2, q3, q4, q5, q6⟩
   · rw [h0] at hi'; simp at hi'
   · refine .inr ⟨g, off, cap, cur, by rw [List.length_set], q1, q2, by rw [List.length_set]; exact q3, ?_, fun j hj => q5 j (by rw [List.length_set] at hj; exact hj), fun j c hj => q6 j c (by rw [List.length_set] at hj; exact hj)⟩
     have := q6 i b hi' hb
     rw [ho.block g (by omega)]; exact q4
 · rw [List.length_set] at hj
   by_cases hji : j = i
   · subst hji
     rw [heq]
     exact hr.wide hlo (by omega)
   · rw [hne j hji]
     rcases (h4 j hj).block with ⟨e1, e2⟩ | ⟨c, e1, e2, e3, e4⟩
     · rw [e1, e2]; exact ⟨by simp, .inl ⟨rfl, rfl⟩⟩
     · have hcb : c ≠ b := fun e => h5 i j b hi' hj (Ne.symm hji) hb (by rw [e1, e])
       exact (e4.only ho (by omega)).wide e2 (by omega)
theorem set_take_marks {zss : List (List Int)} {k0 : Int} {i : Nat} (hi : i < zss.length) :
 (marksSS k0 ((zss.map List.length).take i) ++ zss.drop i).set i (marks (k0 + (sumN ((zss.map List.length).take i) : Nat)) (zss.getD i []).length) = marksSS k0 ((zss.map List.length).take (i + 1)) ++ zss.drop (i + 1) := by
 have hl : (marksSS k0 ((zss.map List.length).take i)).length = i := by rw [marksSS_length, List.length_take, List.length_map]; omega
 have happ : ∀ (ns ms : List Nat) (k : Int), marksSS k (ns ++ ms) = marksSS k ns ++ marksSS (k + (sumN ns : Nat)) ms := by
  intro ns
  induction ns with
  | nil => intro ms k; simp [marksSS, sumN]
  | cons n ns ih =>
   intro ms k
   rw [List.cons_append, marksSS, ih, marksSS, sumN, List.cons_append]
   congr 3
   push_cast
   omega
 rw [List.drop_eq_getElem_cons hi]
 conv => lhs; arg 2; rw [← hl]
 rw [List.set_append_right _ _ (Nat.le_refl _), Nat.sub_self, List.set_cons_zero]
 rw [List.take_add_one, List.getElem?_map, List.getElem?_eq_getElem hi, Option.map_some, Option.toList_some, happ, List.append_assoc]
 have e : zss.getD i [] = zss[i] := by rw [List.getD_eq_getElem?_getD, List.getElem?_eq_getElem hi]; rfl
 rw [e]
 simp [marksSS]
set_option maxHeartbeats 1600000 in
theorem markSS_any (w : World) (lo hi : Nat) (v : Value) (us : List Value) (zss : List (List Int)) (k0 : Int) (h : RowSS w lo hi v us zss) (hk : 0 ≤ k0) (hk2 : k0 + (sumN (zss.map List.length) : Nat) ≤ 1000000000) :
 Calls Tryz.prog 22 #[v, .int .i64 k0] w fun e w' => e = .returned (.int .i64 (k0 + (sumN (zss.map List.length) : Nat))) ∧ RowSS w' lo hi v us (marksSS k0 (zss.map List.length)) ∧ Only lo hi w w' := by
 have hlens : (zss.map List.length).length = zss.length := List.length_map _
 obtain ⟨ls, hls⟩ := exq (zss.map List.length)
 rw [← hls] at hk2 hlens ⊢
 have hstep := fun i hi => set_take_marks (zss := zss) (k0 := k0) (i := i) hi
 rw [← hls] at hstep
 obtain ⟨n, hn⟩ := exq zss.length
 have hh := h
 obtain ⟨ho1, ho2, ho3, _, _⟩ := hh
 obtain ⟨a, cap, hv⟩ : ∃ a cap, v = Value.slice a n cap := by
  rcases ho3 with ⟨e, e2⟩ | ⟨g, off, cap, cur, e, _⟩
  · exact ⟨none, 0, by rw [e, hn, e2]; rfl⟩
  · exact ⟨_, _, by rw [hn]; exact e⟩
 subst hv
 have h0 : Hid (RowSS w lo hi (.slice a n cap) us (marksSS k0 (ls.take 0) ++ zss.drop 0)) := hidI h
 have hon := hidI (Only.refl lo hi w)
 clear ho3
 replace hls := hidI hls
 replace hn := hidI hn
 replace hlens := hidI hlens
 replace hstep := hidI hstep
 replace h := hidI h
 go_enter Tryz.func22, Tryz.ntmps22
 go_wp2
 go_loopg [1, 5] n (fun g kk i wr => ∃ k : Nat, k + g = n ∧ i = .int .i64 k ∧ kk = .int .i64 (k0 + (sumN (ls.take k) : Nat)) ∧ Hid (RowSS wr lo hi (.slice a n cap) us (marksSS k0 (ls.take k) ++ zss.drop k)) ∧ Hid (Only lo hi w wr))
 case atStart => exact ⟨0, by omega, rfl, by simp [sumN], h0, hon⟩
 case round =>
  clear h0 hon
  obtain ⟨k, hk9, rfl, rfl, hR, hO⟩ := hrel
  have hsl := sumN_le ls k
  by_cases hlt : k < n
  · have hki : (k : Int) < (n : Int) := by omega
    have hkz : k < zss.length := by have := hn.out; omega
    have hkl : k < ls.length := by have := hlens.out; omega
    have hst := sumN_take ls k hkl
    have hsl2 := sumN_le ls (k + 1)
    have hlk : ls.getD k 0 = (zss.getD k []).length := by
     rw [hls.out, List.getD_eq_getElem?_getD, List.getElem?_map, List.getD_eq_getElem?_getD, List.getElem?_eq_getElem hkz]; rfl
    obtain ⟨L, hL⟩ := exq (marksSS k0 (ls.take k) ++ zss.drop k)
    have hml : (marksSS k0 (ls.take k)).length = k := by rw [marksSS_length, List.length_take]; omega
    have hLl : L.length = n := by rw [hL, List.length_append, hml, List.length_drop]; have := hn.out; omega
    have hLk : L.getD k [] = zss.getD k [] := by
     rw [hL, List.getD_eq_getElem?_getD, List.getElem?_append_right (by omega), hml, Nat.sub_self, List.getElem?_drop, Nat.add_zero, ← List.getD_eq_getElem?_getD]
    have hnx := hstep.out k hkz
    rw [← hL] at hR hnx
    have hRR := hR.out
    obtain ⟨r1, r2, r3, r4, r5⟩ := hRR
    have hrk := r4 k (by omega)
    rw [hLk] at hrk
    obtain ⟨u, hu⟩ := exq (us.getD k undef)
    obtain ⟨g, off, cap', cur, hv, q1, q2, q3, q4, q5, q6⟩ : ∃ g off cap', ∃ cur : Array Value, Value.slice a n cap = .slice (some ⟨g, off, none⟩) L.length cap' ∧ lo ≤ g ∧ g < hi ∧ L.length ≤ cap' ∧ wr.heap[g]? = some (.cells cur 46 (0, 0)) ∧ (∀ i, i < L.length → cur[off + i]? = some (us.getD i undef)) ∧ (∀ i b, i < L.length → (us.getD i undef).ownBlock = some b → b ≠ g) := by
     rcases r3 with ⟨_, e⟩ | e
     · rw [e] at hLl; simp at hLl; omega
     · exact e
    simp only [Value.slice.injEq] at hv
    obtain ⟨rfl, hnl, rfl⟩ := hv
    clear hnl
    have cu : wr.cell? ⟨g, off + k, none⟩ = some u := by rw [cell_of_heap q4, hu]; exact q5 k (by omega)
    obtain ⟨kc, hkc⟩ : ∃ q : Int, q = k0 + (sumN (ls.take k) : Nat) := ⟨_, rfl⟩
    have hq2 : kc + ((zss.getD k []).length : Nat) = k0 + (sumN (ls.take (k + 1)) : Nat) := by rw [hkc, hst, hlk]; push_cast; omega
    have hcallb : ∀ B1 B2, RowI wr B1 B2 u (zss.getD k []) → Calls Tryz.prog 34 #[u, .int .i64 kc] wr (MarkRet wr B1 B2 u kc (zss.getD k []).length) := fun B1 B2 hr => markIntS_any wr B1 B2 u (zss.getD k []) kc hr (by omega) (by omega) (by omega)
    rw [← hkc] at hnx
    have hcc : ∃ (Q : World → Prop), Calls Tryz.prog 34 #[u, .int .i64 kc] wr (fun e w' => e = .returned (.int .i64 (kc + ((zss.getD k []).length : Nat))) ∧ Q w') ∧ ∀ w', Q w' → RowSS w' lo hi (.slice (some ⟨g, off, none⟩) n cap) us (marksSS k0 (ls.take (k + 1)) ++ zss.drop (k + 1)) ∧ Only lo hi wr w' := by
     rw [← hnx]
     rcases hrk.block with ⟨e1, e2⟩ | ⟨b, e1, e2, e3, e4⟩
     · refine ⟨fun w' => Only 0 0 wr w', (hcallb 0 0 (by rw [hu, e1, e2]; exact ⟨by simp, .inl ⟨rfl, rfl⟩⟩)).mono fun e w' h => ⟨h.1, h.2.2⟩, fun w' hw' => ?_⟩
       have hsame : ∀ c, w'.heap[c]? = wr.heap[c]? := fun c => hw'.block c (.inr (Nat.zero_le _))
       have hset : L.set k (marks kc (zss.getD k []).length) = L := by
        rw [e2]
        apply List.ext_getElem (by simp)
        intro i h1 h2
        rw [List.getElem_set]
        split
        · rename_i hik
          subst hik
          have : L.getD k [] = [] := by rw [hLk, e2]
          rw [List.getD_eq_getElem?_getD, List.getElem?_eq_getElem h2] at this
          exact this.symm
        · rfl
       rw [hset]
       refine ⟨⟨r1, r2, .inr ⟨g, off, cap, cur, by rw [hLl], q1, q2, q3, by rw [hsame]; exact q4, q5, q6⟩, fun i hi => (r4 i hi).keep (fun c _ _ => hsame c), r5⟩, ⟨hw'.os, hw'.tape, hw'.output, hw'.size, fun c _ => hsame c⟩⟩
     · refine ⟨fun w' => RowI w' b (b + 1) u (marks kc (zss.getD k []).length) ∧ Only b (b + 1) wr w', (hcallb b (b + 1) (by rw [hu]; exact e4)).mono fun e w' h => ⟨h.1, h.2.1, h.2.2⟩, fun w' hw' => ?_⟩
       refine ⟨RowSS.put hR.out k (by omega) _ e1 e2 e3 hw'.2 (by rw [← hu]; exact hw'.1), ⟨hw'.2.os, hw'.2.tape, hw'.2.output, hw'.2.size, fun c hc => hw'.2.block c (by omega)⟩⟩
    obtain ⟨Q, hcall, hQ⟩ := hcc
    rw [hq2] at hcall
    rw [← hkc]
    obtain ⟨kn, hkn⟩ : ∃ q : Int, q = k0 + (sumN (ls.take (k + 1)) : Nat) := ⟨_, rfl⟩
    rw [← hkn] at hcall
    replace hkn := hidI hkn
    replace hkc := hidI hkc
    replace hq2 := hidI hq2
    replace hQ := hidI hQ
    replace hst := hidI hst
    replace hk9 := hidI hk9
    replace hu := hidI hu
    replace hL := hidI hL
    replace hLl := hidI hLl
    replace hLk := hidI hLk
    replace hlk := hidI hlk
    replace hml := hidI hml
    replace hnx := hidI hnx
    clear r1 r2 r3 r4 r5 hrk q3 q4 q5 q6 hcallb hR
    go_wp2_with fail
    refine hcall.mono ?_
    rintro e w3 ⟨rfl, hq⟩
    have h3 := hQ.out w3 hq
    have hR3 := hidI h3.1
    have hO3 := hidI (show Only lo hi w w3 from ⟨h3.2.os.trans hO.out.os, h3.2.tape.trans hO.out.tape, h3.2.output.trans hO.out.output, h3.2.size.trans hO.out.size, fun c hc => (h3.2.block c hc).trans (hO.out.block c hc)⟩)
    clear hcall h3 hq cu
    go_wp2
    go_roundg (n - (k + 1))
    case rel => exact ⟨k + 1, by have := hk9.out; omega, by go_num, by rw [hkn.out], hR3, hO3⟩
    case measure => have := hk9.out; omega
  · obtain rfl : k = n := by omega
    have hki : ¬ (k : Int) < (k : Int) := by omega
    have hfull : ls.take k = ls := List.take_of_length_le (by have := hlens.out; have := hn.out; omega)
    have hR' := hR.out
    rw [hfull, show zss.drop k = [] from List.drop_of_length_le (by have := hn.out; omega), List.append_nil] at hR'
    rw [hfull]
    replace hR' := hidI hR'
    replace hfull := hidI hfull
    replace hk9 := hidI hk9
    go_wp2
    go_ret
    exact ⟨ret_i rfl, hR'.out, hO.out⟩
abbrev OwnsW (w : World) (base : Nat) (v : Value) (us : List Value) : Prop := w.ownsRow base 46 1 v us.length us
theorem infoSl : (Tryz.prog.info? 46).map (fun i => (i.zero, i.size, i.bytes)) = some (some (.slice none 0 0), 1, 24) := by kernel_rfl
theorem OwnsW.nil (w : World) (base : Nat) : OwnsW w base (.slice none 0 0) [] := World.ownsRow_nil _ _ _ _
theorem OwnsW.lit (w : World) : OwnsW (w.alloc (.cells #[] 46)) w.heap.size (.slice (some ⟨w.heap.size, 0, none⟩) 0 0) [] := World.ownsRow_lit w #[] 0 (Nat.le_refl _) (Nat.zero_le _) rfl
theorem OwnsW.other {w w' : World} {base : Nat} {v : Value} {us : List Value} (h : OwnsW w base v us) (hb : ∀ k, v.ownBlock = some k → w'.heap[k]? = w.heap[k]?) : OwnsW w' base v us := by
 obtain ⟨h1, h2 | ⟨g, cap, cur, rfl, hg, hh, hr⟩⟩ := h
 · exact ⟨h1, .inl h2⟩
 · exact ⟨h1, .inr ⟨g, cap, cur, rfl, hg, (hb g rfl).trans hh, hr⟩⟩
theorem OwnsW.form {w : World} {base : Nat} {v : Value} {us : List Value} (h : OwnsW w base v us) : ∃ a cap, v = .slice a us.length cap := by
 obtain ⟨_, ⟨h1, h2⟩ | ⟨g, cap, cur, h1, _⟩⟩ := h
 · exact ⟨none, 0, by rw [h1, h2]⟩
 · exact ⟨_, _, h1⟩
theorem wpList_pushW_at {w0 : World} {ops : Array Oper} {rest : List Oper} {o : Oper} {a : Act} {Q : Exit → Act → World → Prop} (hgd : o.guard = none) (s x : Operand)
 (ho : o.op = .call { callee := .builtin .append, args := #[s, x], argTypes := #[32, 32] }) (base : Nat) (v : Value) (us : List Value) (ua : Option Addr) (un uc : Nat)
 (hs : a.eval s = v) (hx : a.eval x = .slice (some ⟨w0.heap.size, 0, none⟩) 1 1) (hown : OwnsW w0 base v us) (hl : us.length ≤ 1000000000) (hbase : base ≤ w0.heap.size)
 (h : ∀ v' w', OwnsW w' base v' (us ++ [.slice ua un uc]) → (w0.alloc (.cells #[.slice ua un uc] 46)).grownBy w' v.ownBlock → (v'.ownBlock = v.ownBlock ∨ v'.ownBlock = some (w0.heap.size + 1)) → wpList Tryz.prog ops Q rest (a.put o.dst v') w') :
 wpList Tryz.prog ops Q (o :: rest) a (w0.alloc (.cells #[.slice ua un uc] 46)) := by
 obtain ⟨i0, hi, hz0, hz1, hz2⟩ := info_parts infoSl
 refine wpList_append_own_at _ hgd s x 32 ho base 46 i0 (.slice none 0 0) 1 24 Tryz.underlying32 hi hz0 hz1 hz2 rfl (by decide) v us.length us hs (World.ownsRow.alloc hown _) ⟨w0.heap.size, 0, none⟩ 1 1 [.slice ua un uc] hx rfl (cell_one_new _ _ _) ?_ ?_ ?_ ?_ ?_
 · intro u hu
   simp at hu
   subst hu; rfl
 · unfold maxLen; omega
 · omega
 · simp; omega
 · intro v' w' ho' hg _ hw
   exact h v' w' (by unfold OwnsW; simpa using ho') hg (by simpa using hw)
theorem OwnsW.rowSS {w : World} {base lo hi : Nat} {v : Value} {us : List Value} {zss : List (List Int)} (h : OwnsW w base v us) (hlo : lo ≤ base) (hhi : w.heap.size ≤ hi) (hlen : us.length = zss.length) (hl : zss.length ≤ 1000000000)
 (hne : ∀ i b, i < us.length → (us.getD i undef).ownBlock = some b → v.ownBlock ≠ some b) (hrow : ∀ i, i < us.length → RowI w lo hi (us.getD i undef) (zss.getD i []))
 (hdis : ∀ i j b, i < us.length → j < us.length → i ≠ j → (us.getD i undef).ownBlock = some b → (us.getD j undef).ownBlock ≠ some b) : RowSS w lo hi v us zss := by
 have hlt := World.ownsRow.lt h
 refine ⟨hlen, hl, ?_, fun i hi => hrow i (by omega), fun i j b h1 h2 => hdis i j b (by omega) (by omega)⟩
 obtain ⟨h1, ⟨rfl, h2⟩ | ⟨g, cap, cur, rfl, hg, hh, hc1, hc2, hc3, hc4⟩⟩ := h
 · exact .inl ⟨rfl, List.length_eq_zero_iff.1 (by omega)⟩
 · refine .inr ⟨g, 0, cap, cur, by rw [hlen], by omega, by have := (hlt g rfl).2; omega, by omega, hh, fun i hi => ?_, fun i b hi hb he => hne i b (by omega) hb (by rw [he]; rfl)⟩
   have hi' : i < us.length := by omega
   have : (cur.toList.take (us.length * 1))[i]? = us[i]? := by rw [hc4]
   rw [List.getElem?_take, if_pos (by omega), List.getElem?_eq_getElem hi'] at this
   rw [Nat.zero_add, ← Array.getElem?_toList, this, List.getD_eq_getElem?_getD, List.getElem?_eq_getElem hi']; rfl
theorem RowSS.read {w : World} {lo hi : Nat} {v : Value} {us : List Value} {zss : List (List Int)} (h : RowSS w lo hi v us zss) : ReadSS hi w v zss := by
 obtain ⟨h1, h2, h3, h4, h5⟩ := h
 rcases h3 with ⟨rfl, rfl⟩ | ⟨g, off, cap, cur, rfl, q1, q2, q3, q4, q5, q6⟩
 · exact ⟨by simp, none, 0, rfl, ⟨fun _ => rfl, Nat.le_refl _⟩, .inl rfl⟩
 · refine ⟨by omega, _, _, rfl, ⟨(fun e => by cases e), q3⟩, .inr ⟨g, off, rfl, q2, fun i hi => ⟨us.getD i undef, by rw [cell_of_heap q4]; exact q5 i hi, (h4 i hi).read⟩⟩⟩
def LwWords (w : World) (zss : List (List Int)) (e : Ending) (w' : World) : Prop :=
 ∃ v us, e = .returned v ∧ RowSS w' w.heap.size w'.heap.size v us zss ∧ Below w.heap.size w w'
theorem RowSS.keep {w w' : World} {lo hi : Nat} {v : Value} {us : List Value} {zss : List (List Int)} (h : RowSS w lo hi v us zss) (hb : ∀ k, lo ≤ k → k < hi → w'.heap[k]? = w.heap[k]?) : RowSS w' lo hi v us zss := by
 obtain ⟨h1, h2, h3, h4, h5⟩ := h
 refine ⟨h1, h2, ?_, fun i hi => (h4 i hi).keep hb, h5⟩
 rcases h3 with e | ⟨g, off, cap, cur, q0, q1, q2, q3, q4, q5⟩
 · exact .inl e
 · exact .inr ⟨g, off, cap, cur, q0, q1, q2, q3, by rw [hb g q1 q2]; exact q4, q5⟩
theorem RowSS.below {w w' : World} {lo hi B : Nat} {v : Value} {us : List Value} {zss : List (List Int)} (h : RowSS w lo hi v us zss) (hb : Below B w w') (hB : hi ≤ B) : RowSS w' lo hi v us zss :=
 h.keep fun k _ hk => hb.block k (by omega)
theorem RowSS.only {w w' : World} {lo hi lo' hi' : Nat} {v : Value} {us : List Value} {zss : List (List Int)} (h : RowSS w lo hi v us zss) (ho : Only lo' hi' w w') (hd : hi ≤ lo' ∨ hi' ≤ lo) : RowSS w' lo hi v us zss :=
 h.keep fun k h1 h2 => ho.block k (by omega)
theorem RowSS.wide {w : World} {lo hi lo' hi' : Nat} {v : Value} {us : List Value} {zss : List (List Int)} (h : RowSS w lo hi v us zss) (h1 : lo' ≤ lo) (h2 : hi ≤ hi') : RowSS w lo' hi' v us zss := by
 obtain ⟨g1, g2, g3, g4, g5⟩ := h
 refine ⟨g1, g2, ?_, fun i hi => (g4 i hi).wide h1 h2, g5⟩
 rcases g3 with e | ⟨g, off, cap, cur, q0, q1, q2, q3⟩
 · exact .inl e
 · exact .inr ⟨g, off, cap, cur, q0, by omega, by omega, q3⟩
theorem eqSS_law (w : World) (v1 v2 : Value) (zss : List (List Int)) (h1 : ReadSS w.heap.size w v1 zss) (h2 : ReadSS w.heap.size w v2 zss) :
 Calls Tryz.prog 19 #[v1, v2] w (SameRet w true) :=
 (eqSS_same w w.heap.size v1 v2 zss h1 h2).mono fun e w' ⟨he, n, hw⟩ => ⟨he, by rw [hw]; exact below_dn (Below.refl _ _) n, by rw [hw]; rfl⟩
open Go.RowKit Go.ChangeShapes Go.WideShapes Go.Deep
set_option maxRecDepth 100000
def IsRowW (w : World) (a : Option Addr) (len cap : Nat) (zss : List (List Int)) : Prop :=
 (a = none ∧ len = 0 ∧ cap = 0 ∧ zss = []) ∨ ∃ x, a = some x ∧ len ≤ cap ∧ cap ≤ maxLen ∧ zss.length = len ∧
  ∀ i, i < len → ∃ ai ni ci zs, w.cell? (x.add i) = some (.slice ai ni ci) ∧ IsRow .i64 w ai ni ci zs ∧ zss.getD i [] = zs.take ni
def HeadsW (w : World) (v : Value) (ns : List Nat) : Prop :=
 ∃ a cap, v = .slice a ns.length cap ∧ ns.length ≤ 9223372036854775807 ∧ (ns = [] ∨ ∃ b off, a = some ⟨b, off, none⟩ ∧ b < w.heap.size ∧ ∀ i, i < ns.length → ∃ ai ci, w.cell? ⟨b, off + i, none⟩ = some (.slice ai (ns.getD i 0) ci) ∧ ns.getD i 0 ≤ 9223372036854775807)
theorem HeadsW.below {w w' : World} {v : Value} {ns : List Nat} (h : HeadsW w v ns) (hb : Below w.heap.size w w') : HeadsW w' v ns := by
 obtain ⟨a, cap, hv, hl, hc⟩ := h
 refine ⟨a, cap, hv, hl, hc.imp id ?_⟩
 rintro ⟨b, off, ha, hB, hcell⟩
 refine ⟨b, off, ha, by have := hb.size; omega, fun i hi => ?_⟩
 obtain ⟨ai, ci, h1, h2⟩ := hcell i hi
 exact ⟨ai, ci, by rw [hb.cell (p := ⟨b, off + i, none⟩) hB]; exact h1, h2⟩
theorem row_take_len {k : IntKind} {w : World} {a : Option Addr} {n cap : Nat} {zs : List Int} (h : IsRow k w a n cap zs) : (zs.take n).length = n := by
 rcases h with ⟨_, rfl, _, rfl⟩ | ⟨x, _, h1, _, h3, _⟩
 · rfl
 · rw [List.length_take]; omega
theorem IsRowW.spot {w : World} {a : Option Addr} {len cap : Nat} {zss : List (List Int)} (h : IsRowW w a len cap zss) (h0 : 0 < len) :
 ∃ b off, a = some ⟨b, off, none⟩ ∧ b < w.heap.size ∧ len ≤ cap ∧ zss.length = len ∧ ∀ i, i < len → ∃ ai ni ci zs, w.cell? ⟨b, off + i, none⟩ = some (.slice ai ni ci) ∧ IsRow .i64 w ai ni ci zs ∧ zss.getD i [] = zs.take ni := by
 rcases h with ⟨_, h1, _⟩ | ⟨x, rfl, h1, h2, h3, hc⟩
 · omega
 · obtain ⟨_, _, _, _, c0, _⟩ := hc 0 h0
   obtain ⟨b, off, spot⟩ := x
   have hspot : spot = none := by simpa [Addr.add] using World.cell?_spot c0
   subst hspot
   refine ⟨b, off, rfl, ?_, h1, h3, fun i hi => ?_⟩
   · have c0' := c0
     simp [Addr.add] at c0'
     rcases Nat.lt_or_ge b w.heap.size with h1 | h1
     · exact h1
     · unfold World.cell? at c0'
       rw [show w.heap[(⟨b, off, none⟩ : Addr).block]? = none from Array.getElem?_eq_none h1] at c0'
       cases c0'
   · obtain ⟨ai, ni, ci, zs, q1, q2, q3⟩ := hc i hi
     refine ⟨ai, ni, ci, zs, ?_, q2, q3⟩
     by_cases hi0 : i = 0
     · subst hi0; simpa [Addr.add] using q1
     · simpa [Addr.add, hi0] using q1
theorem IsRowW.len {w : World} {a : Option Addr} {len cap : Nat} {zss : List (List Int)} (h : IsRowW w a len cap zss) : zss.length = len ∧ len ≤ 9223372036854775807 := by
 rcases h with ⟨_, rfl, _, rfl⟩ | ⟨x, _, h1, h2, h3, _⟩
 · exact ⟨rfl, by omega⟩
 · exact ⟨h3, by unfold maxLen at h2; omega⟩
theorem getD_map_len (zss : List (List Int)) (i : Nat) : (zss.map List.length).getD i 0 = (zss.getD i []).length := by
 rw [List.getD_eq_getElem?_getD, List.getElem?_map, List.getD_eq_getElem?_getD]
 cases zss[i]? <;> rfl
theorem sumN_getD : ∀ (ns : List Nat) (i : Nat), i < ns.length → ns.getD i 0 ≤ sumN ns := by
 intro ns
 induction ns with
 | nil => intro i hi; simp at hi
 | cons n ns ih =>
  intro i hi
  cases i with
  | zero => simp [sumN]
  | succ i => have := ih i (by simpa using hi); simp only [List.getD_cons_succ, sumN]; omega
theorem IsRowW.read {w : World} {a : Option Addr} {len cap : Nat} {zss : List (List Int)} (h : IsRowW w a len cap zss) (hs : zss.length + sumN (zss.map List.length) ≤ 1048576) :
 ReadSS w.heap.size w (.slice a len cap) zss ∧ (∀ zs ∈ zss, InR zs) ∧ zss.length = len := by
 obtain ⟨hl, hm⟩ := h.len
 rcases Nat.eq_zero_or_pos len with h0 | h0
 · have hz : zss = [] := List.length_eq_zero_iff.1 (by omega)
   subst hz h0
   refine ⟨⟨by simp, a, cap, rfl, ?_, .inl rfl⟩, (fun zs hzs => (List.not_mem_nil hzs).elim), rfl⟩
   rcases h with ⟨rfl, _, rfl, _⟩ | ⟨x, rfl, h1, _⟩
   · exact ⟨fun _ => rfl, Nat.le_refl _⟩
   · exact ⟨(fun e => by cases e), Nat.zero_le _⟩
 · obtain ⟨b, off, rfl, hb, hcap, _, hc⟩ := h.spot h0
   have each : ∀ i, i < zss.length → ∃ u, w.cell? ⟨b, off + i, none⟩ = some u ∧ ReadI w.heap.size w u (zss.getD i []) ∧ InR (zss.getD i []) := fun i hi => by
    obtain ⟨ai, ni, ci, zs, q1, q2, q3⟩ := hc i (by omega)
    have hn : ni ≤ 1048576 := by
     have h1 := sumN_getD (zss.map List.length) i (by rw [List.length_map]; omega)
     rw [getD_map_len, q3, row_take_len q2] at h1
     omega
    obtain ⟨r1, r2, _⟩ := readI_row q2 hn
    exact ⟨_, q1, by rw [q3]; exact r1, by rw [q3]; exact r2⟩
   refine ⟨⟨by omega, _, cap, by rw [hl], ⟨(fun e => by cases e), by omega⟩, .inr ⟨b, off, rfl, hb, fun i hi => ?_⟩⟩, fun zs hzs => ?_, hl⟩
   · obtain ⟨u, h1, h2, _⟩ := each i hi
     exact ⟨u, h1, h2⟩
   · obtain ⟨i, hi, rfl⟩ := List.getElem_of_mem hzs
     obtain ⟨_, _, _, h3⟩ := each i hi
     rwa [List.getD_eq_getElem?_getD, List.getElem?_eq_getElem hi] at h3
section
variable {H : Type} {enc : TypeId × Value → H} {W : World} {base : Nat} {v : Value} {d : DataW H} {p : List MemPlace}
end
def Climb (w : World) (lo : Nat) (us : List Value) (zss : List (List Int)) : Prop :=
 (∀ i, i < us.length → RowI w lo w.heap.size (us.getD i undef) (zss.getD i [])) ∧ us.Pairwise (fun p q => ∀ b c, p.ownBlock = some b → q.ownBlock = some c → b < c)
theorem Climb.keep {w w' : World} {lo : Nat} {us : List Value} {zss : List (List Int)} (h : Climb w lo us zss) (hs : w.heap.size ≤ w'.heap.size) (hb : ∀ b, lo ≤ b → b < w.heap.size → w'.heap[b]? = w.heap[b]?) : Climb w' lo us zss :=
 ⟨fun i hi => ((h.1 i hi).keep hb).wide (Nat.le_refl _) hs, h.2⟩
theorem Climb.lt {w : World} {lo : Nat} {us : List Value} {zss : List (List Int)} (h : Climb w lo us zss) : ∀ x ∈ us, ∀ b, x.ownBlock = some b → lo ≤ b ∧ b < w.heap.size := by
 intro x hx b hb
 obtain ⟨i, hi, rfl⟩ := List.getElem_of_mem hx
 have := h.1 i hi
 rw [List.getD_eq_getElem?_getD, List.getElem?_eq_getElem hi] at this
 rcases this.block with ⟨e1, _⟩ | ⟨d, e1, e2, e3, _⟩
 · simp only [Option.getD_some] at e1; rw [e1] at hb; cases hb
 · simp only [Option.getD_some] at e1; rw [e1] at hb; cases hb; exact ⟨e2, e3⟩
end Go.Proofs.YtpjlamnjiilgbaaGreat
