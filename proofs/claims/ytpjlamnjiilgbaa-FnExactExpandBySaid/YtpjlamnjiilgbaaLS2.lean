/- Slices of slices of ints that the call made, each in a block of its own: laws.markIntSS. -/
import Derived.Test.YtpjlamnjiilgbaaLS1
namespace Go.Proofs.Ytpjlamnjiilgbaa
open Go.RowKit
set_option linter.unusedVariables false
set_option linter.unusedSimpArgs false

/-- v is of the call's own, a row at block g; its elements us are rows of the call's own, in blocks from lo on and below hi, none of them g, no two the same. -/
def RowSS (w : World) (lo hi : Nat) (v : Value) (us : List Value) (zss : List (List Int)) : Prop :=
  us.length = zss.length ∧ zss.length ≤ 1000000000 ∧ ((v = .slice none 0 0 ∧ zss = []) ∨ ∃ g off cap cur, v = .slice (some ⟨g, off, none⟩) zss.length cap ∧ lo ≤ g ∧ g < hi ∧ zss.length ≤ cap ∧ w.heap[g]? = some (.cells cur 23 (0, 0)) ∧
    (∀ i, i < zss.length → cur[off + i]? = some (us.getD i undef)) ∧ (∀ i b, i < zss.length → (us.getD i undef).ownBlock = some b → b ≠ g)) ∧
  (∀ i, i < zss.length → RowI w lo hi (us.getD i undef) (zss.getD i [])) ∧
  (∀ i j b, i < zss.length → j < zss.length → i ≠ j → (us.getD i undef).ownBlock = some b → (us.getD j undef).ownBlock ≠ some b)
theorem RowI.block {w : World} {lo hi : Nat} {v : Value} {zs : List Int} (h : RowI w lo hi v zs) : (v = .slice none 0 0 ∧ zs = []) ∨ ∃ b, v.ownBlock = some b ∧ lo ≤ b ∧ b < hi ∧ RowI w b (b + 1) v zs := by
  obtain ⟨hl, h1 | ⟨g, off, cap, cur, rfl, h1, h2, h3⟩⟩ := h
  · exact .inl h1
  · exact .inr ⟨g, rfl, h1, h2, hl, .inr ⟨g, off, cap, cur, rfl, Nat.le_refl _, Nat.lt_succ_self _, h3⟩⟩
/-- One element is changed, in its own block. -/
theorem RowSS.put {w w' : World} {lo hi : Nat} {v : Value} {us : List Value} {zss : List (List Int)} (h : RowSS w lo hi v us zss) (i : Nat) (hi' : i < zss.length) (zs : List Int) {b : Nat} (hb : (us.getD i undef).ownBlock = some b) (hlo : lo ≤ b) (hhi : b < hi) (ho : Only b (b + 1) w w') (hr : RowI w' b (b + 1) (us.getD i undef) zs) :
    RowSS w' lo hi v us (zss.set i zs) := by
  obtain ⟨h1, h2, h3, h4, h5⟩ := h
  have hne : ∀ j, j ≠ i → (zss.set i zs).getD j [] = zss.getD j [] := fun j hj => by
    rw [List.getD_eq_getElem?_getD, List.getElem?_set_ne (Ne.symm hj), List.getD_eq_getElem?_getD]
  have heq : (zss.set i zs).getD i [] = zs := by
    rw [List.getD_eq_getElem?_getD, List.getElem?_set_self hi']; rfl
  refine ⟨by rw [List.length_set]; exact h1, by rw [List.length_set]; exact h2, ?_, fun j hj => ?_, fun a c d ha hc => by rw [List.length_set] at ha hc; exact h5 a c d ha hc⟩
  · rcases h3 with ⟨_, h0⟩ | ⟨g, off, cap, cur, rfl, q1, q2, q3, q4, q5, q6⟩
    · rw [h0] at hi'; simp at hi'
    · refine .inr ⟨g, off, cap, cur, by rw [List.length_set], q1, q2, by rw [List.length_set]; exact q3, ?_, fun j hj => q5 j (by rw [List.length_set] at hj; exact hj), fun j c hj => q6 j c (by rw [List.length_set] at hj; exact hj)⟩
      have := q6 i b hi' hb
      rw [ho.block g (by omega)]; exact q4
  · rw [List.length_set] at hj
    by_cases hji : j = i
    · subst hji
      rw [heq]
      exact hr.wide hlo (by omega)
    · rw [hne j hji]
      rcases (h4 j hj).block with ⟨e1, e2⟩ | ⟨c, e1, e2, e3, e4⟩
      · rw [e1, e2]; exact ⟨by simp, .inl ⟨rfl, rfl⟩⟩
      · have hcb : c ≠ b := fun e => h5 i j b hi' hj (Ne.symm hji) hb (by rw [e1, e])
        exact (e4.only ho (by omega)).wide e2 (by omega)
theorem set_take_marks {zss : List (List Int)} {k0 : Int} {i : Nat} (hi : i < zss.length) :
    (marksSS k0 ((zss.map List.length).take i) ++ zss.drop i).set i (marks (k0 + (sumN ((zss.map List.length).take i) : Nat)) (zss.getD i []).length) = marksSS k0 ((zss.map List.length).take (i + 1)) ++ zss.drop (i + 1) := by
  have hl : (marksSS k0 ((zss.map List.length).take i)).length = i := by rw [marksSS_length, List.length_take, List.length_map]; omega
  have happ : ∀ (ns ms : List Nat) (k : Int), marksSS k (ns ++ ms) = marksSS k ns ++ marksSS (k + (sumN ns : Nat)) ms := by
    intro ns
    induction ns with
    | nil => intro ms k; simp [marksSS, sumN]
    | cons n ns ih =>
      intro ms k
      rw [List.cons_append, marksSS, ih, marksSS, sumN, List.cons_append]
      congr 3
      push_cast
      omega
  rw [List.drop_eq_getElem_cons hi]
  conv => lhs; arg 2; rw [← hl]
  rw [List.set_append_right _ _ (Nat.le_refl _), Nat.sub_self, List.set_cons_zero]
  rw [List.take_add_one, List.getElem?_map, List.getElem?_eq_getElem hi, Option.map_some, Option.toList_some, happ, List.append_assoc]
  have e : zss.getD i [] = zss[i] := by rw [List.getD_eq_getElem?_getD, List.getElem?_eq_getElem hi]; rfl
  rw [e]
  simp [marksSS]
set_option maxHeartbeats 1600000 in
theorem markSS_any (w : World) (lo hi : Nat) (v : Value) (us : List Value) (zss : List (List Int)) (k0 : Int) (h : RowSS w lo hi v us zss) (hk : 0 ≤ k0) (hk2 : k0 + (sumN (zss.map List.length) : Nat) ≤ 1000000000) :
    Calls Try.prog 11 #[v, .int .i64 k0] w fun e w' => e = .returned (.int .i64 (k0 + (sumN (zss.map List.length) : Nat))) ∧ RowSS w' lo hi v us (marksSS k0 (zss.map List.length)) ∧ Only lo hi w w' := by
  have hlens : (zss.map List.length).length = zss.length := List.length_map _
  obtain ⟨ls, hls⟩ : ∃ l, l = zss.map List.length := ⟨_, rfl⟩
  rw [← hls] at hk2 hlens ⊢
  have hstep := fun i hi => set_take_marks (zss := zss) (k0 := k0) (i := i) hi
  rw [← hls] at hstep
  obtain ⟨n, hn⟩ : ∃ n, n = zss.length := ⟨_, rfl⟩
  have hh := h
  obtain ⟨ho1, ho2, ho3, _, _⟩ := hh
  obtain ⟨a, cap, hv⟩ : ∃ a cap, v = Value.slice a n cap := by
    rcases ho3 with ⟨e, e2⟩ | ⟨g, off, cap, cur, e, _⟩
    · exact ⟨none, 0, by rw [e, hn, e2]; rfl⟩
    · exact ⟨_, _, by rw [hn]; exact e⟩
  subst hv
  have h0 : Hid (RowSS w lo hi (.slice a n cap) us (marksSS k0 (ls.take 0) ++ zss.drop 0)) := hidI h
  have hon := hidI (Only.refl lo hi w)
  clear ho3
  replace hls := hidI hls
  replace hn := hidI hn
  replace hlens := hidI hlens
  replace hstep := hidI hstep
  replace h := hidI h
  go_enter Try.func11, Try.ntmps11
  go_wp2
  go_loopg [1, 5] n (fun g kk i wr => ∃ k : Nat, k + g = n ∧ i = .int .i64 k ∧ kk = .int .i64 (k0 + (sumN (ls.take k) : Nat)) ∧ Hid (RowSS wr lo hi (.slice a n cap) us (marksSS k0 (ls.take k) ++ zss.drop k)) ∧ Hid (Only lo hi w wr))
  case atStart => exact ⟨0, by omega, rfl, by simp [sumN], h0, hon⟩
  case round =>
    clear h0 hon
    obtain ⟨k, hk9, rfl, rfl, hR, hO⟩ := hrel
    have hsl := sumN_le ls k
    by_cases hlt : k < n
    · have hki : (k : Int) < (n : Int) := by omega
      have hkz : k < zss.length := by have := hn.out; omega
      have hkl : k < ls.length := by have := hlens.out; omega
      have hst := sumN_take ls k hkl
      have hsl2 := sumN_le ls (k + 1)
      have hlk : ls.getD k 0 = (zss.getD k []).length := by
        rw [hls.out, List.getD_eq_getElem?_getD, List.getElem?_map, List.getD_eq_getElem?_getD, List.getElem?_eq_getElem hkz]; rfl
      obtain ⟨L, hL⟩ : ∃ L, L = marksSS k0 (ls.take k) ++ zss.drop k := ⟨_, rfl⟩
      have hml : (marksSS k0 (ls.take k)).length = k := by rw [marksSS_length, List.length_take]; omega
      have hLl : L.length = n := by rw [hL, List.length_append, hml, List.length_drop]; have := hn.out; omega
      have hLk : L.getD k [] = zss.getD k [] := by
        rw [hL, List.getD_eq_getElem?_getD, List.getElem?_append_right (by omega), hml, Nat.sub_self, List.getElem?_drop, Nat.add_zero, ← List.getD_eq_getElem?_getD]
      have hnx := hstep.out k hkz
      rw [← hL] at hR hnx
      have hRR := hR.out
      obtain ⟨r1, r2, r3, r4, r5⟩ := hRR
      have hrk := r4 k (by omega)
      rw [hLk] at hrk
      obtain ⟨u, hu⟩ : ∃ u, u = us.getD k undef := ⟨_, rfl⟩
      obtain ⟨g, off, cap', cur, hv, q1, q2, q3, q4, q5, q6⟩ : ∃ g off cap', ∃ cur : Array Value, Value.slice a n cap = .slice (some ⟨g, off, none⟩) L.length cap' ∧ lo ≤ g ∧ g < hi ∧ L.length ≤ cap' ∧ wr.heap[g]? = some (.cells cur 23 (0, 0)) ∧ (∀ i, i < L.length → cur[off + i]? = some (us.getD i undef)) ∧ (∀ i b, i < L.length → (us.getD i undef).ownBlock = some b → b ≠ g) := by
        rcases r3 with ⟨_, e⟩ | e
        · rw [e] at hLl; simp at hLl; omega
        · exact e
      simp only [Value.slice.injEq] at hv
      obtain ⟨rfl, hnl, rfl⟩ := hv
      clear hnl
      have cu : wr.cell? ⟨g, off + k, none⟩ = some u := by rw [cell_of_heap q4, hu]; exact q5 k (by omega)
      obtain ⟨kc, hkc⟩ : ∃ q : Int, q = k0 + (sumN (ls.take k) : Nat) := ⟨_, rfl⟩
      have hq2 : kc + ((zss.getD k []).length : Nat) = k0 + (sumN (ls.take (k + 1)) : Nat) := by rw [hkc, hst, hlk]; push_cast; omega
      have hcallb : ∀ B1 B2, RowI wr B1 B2 u (zss.getD k []) → Calls Try.prog 12 #[u, .int .i64 kc] wr (MarkRet wr B1 B2 u kc (zss.getD k []).length) := fun B1 B2 hr => markIntS_any wr B1 B2 u (zss.getD k []) kc hr (by omega) (by omega) (by omega)
      rw [← hkc] at hnx
      have hcc : ∃ (Q : World → Prop), Calls Try.prog 12 #[u, .int .i64 kc] wr (fun e w' => e = .returned (.int .i64 (kc + ((zss.getD k []).length : Nat))) ∧ Q w') ∧ ∀ w', Q w' → RowSS w' lo hi (.slice (some ⟨g, off, none⟩) n cap) us (marksSS k0 (ls.take (k + 1)) ++ zss.drop (k + 1)) ∧ Only lo hi wr w' := by
        rw [← hnx]
        rcases hrk.block with ⟨e1, e2⟩ | ⟨b, e1, e2, e3, e4⟩
        · refine ⟨fun w' => Only 0 0 wr w', (hcallb 0 0 (by rw [hu, e1, e2]; exact ⟨by simp, .inl ⟨rfl, rfl⟩⟩)).mono fun e w' h => ⟨h.1, h.2.2⟩, fun w' hw' => ?_⟩
          have hsame : ∀ c, w'.heap[c]? = wr.heap[c]? := fun c => hw'.block c (.inr (Nat.zero_le _))
          have hset : L.set k (marks kc (zss.getD k []).length) = L := by
            rw [e2]
            apply List.ext_getElem (by simp)
            intro i h1 h2
            rw [List.getElem_set]
            split
            · rename_i hik
              subst hik
              have : L.getD k [] = [] := by rw [hLk, e2]
              rw [List.getD_eq_getElem?_getD, List.getElem?_eq_getElem h2] at this
              exact this.symm
            · rfl
          rw [hset]
          refine ⟨⟨r1, r2, .inr ⟨g, off, cap, cur, by rw [hLl], q1, q2, q3, by rw [hsame]; exact q4, q5, q6⟩, fun i hi => (r4 i hi).keep (fun c _ _ => hsame c), r5⟩, ⟨hw'.os, hw'.tape, hw'.output, hw'.size, fun c _ => hsame c⟩⟩
        · refine ⟨fun w' => RowI w' b (b + 1) u (marks kc (zss.getD k []).length) ∧ Only b (b + 1) wr w', (hcallb b (b + 1) (by rw [hu]; exact e4)).mono fun e w' h => ⟨h.1, h.2.1, h.2.2⟩, fun w' hw' => ?_⟩
          refine ⟨RowSS.put hR.out k (by omega) _ e1 e2 e3 hw'.2 (by rw [← hu]; exact hw'.1), ⟨hw'.2.os, hw'.2.tape, hw'.2.output, hw'.2.size, fun c hc => hw'.2.block c (by omega)⟩⟩
      obtain ⟨Q, hcall, hQ⟩ := hcc
      rw [hq2] at hcall
      rw [← hkc]
      obtain ⟨kn, hkn⟩ : ∃ q : Int, q = k0 + (sumN (ls.take (k + 1)) : Nat) := ⟨_, rfl⟩
      rw [← hkn] at hcall
      replace hkn := hidI hkn
      replace hkc := hidI hkc
      replace hq2 := hidI hq2
      replace hQ := hidI hQ
      replace hst := hidI hst
      replace hk9 := hidI hk9
      replace hu := hidI hu
      replace hL := hidI hL
      replace hLl := hidI hLl
      replace hLk := hidI hLk
      replace hlk := hidI hlk
      replace hml := hidI hml
      replace hnx := hidI hnx
      clear r1 r2 r3 r4 r5 hrk q3 q4 q5 q6 hcallb hR
      go_wp2_with fail
      refine hcall.mono ?_
      rintro e w3 ⟨rfl, hq⟩
      have h3 := hQ.out w3 hq
      have hR3 := hidI h3.1
      have hO3 := hidI (show Only lo hi w w3 from ⟨h3.2.os.trans hO.out.os, h3.2.tape.trans hO.out.tape, h3.2.output.trans hO.out.output, h3.2.size.trans hO.out.size, fun c hc => (h3.2.block c hc).trans (hO.out.block c hc)⟩)
      clear hcall h3 hq cu
      go_wp2
      go_roundg (n - (k + 1))
      case rel => exact ⟨k + 1, by have := hk9.out; omega, by go_num, by rw [hkn.out], hR3, hO3⟩
      case measure => have := hk9.out; omega
    · obtain rfl : k = n := by omega
      have hki : ¬ (k : Int) < (k : Int) := by omega
      have hfull : ls.take k = ls := List.take_of_length_le (by have := hlens.out; have := hn.out; omega)
      have hR' := hR.out
      rw [hfull, show zss.drop k = [] from List.drop_of_length_le (by have := hn.out; omega), List.append_nil] at hR'
      rw [hfull]
      replace hR' := hidI hR'
      replace hfull := hidI hfull
      replace hk9 := hidI hk9
      go_wp2
      go_ret
      exact ⟨ret_i rfl, hR'.out, hO.out⟩
end Go.Proofs.Ytpjlamnjiilgbaa
