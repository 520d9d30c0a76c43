/- Words, the program: PowerWord, with slices.Repeat of one word. -/
import Derived.Test.YthjlemcnddkjgaaWF
import Derived.Test.YthjlemcnddkjgaaWGm
import Derived.Laws.CopyOwn
import Derived.Deep.RegionLaw
namespace Go.Proofs.Ythjlemcnddkjgaa
open Go.RowKit
set_option linter.unusedVariables false

theorem infoInts : (Try.prog.info? 24).map (fun i => (i.zero, i.size, i.bytes)) = some (some (.slice none 0 0), 1, 24) := by kernel_rfl
/-- n copies of the word, k - n empty places. -/
def dup (v : Value) (k n : Nat) : List Value := List.replicate n v ++ List.replicate (k - n) (.slice none 0 0)
theorem dup_length (v : Value) (k n : Nat) (h : n ≤ k) : (dup v k n).length = k := by simp [dup]; omega
theorem dup_splice (v : Value) (k n m : Nat) (h : n + m ≤ k) : splice (dup v k n) n (List.replicate m v) = dup v k (n + m) := by
  unfold splice dup
  rw [List.take_left' (by simp), List.length_replicate, List.drop_append, List.drop_of_length_le (by simp), List.nil_append, List.length_replicate, List.drop_replicate, ← List.append_assoc, List.replicate_append_replicate]
  congr 2
  omega
theorem dup_at {v : Value} {k n i : Nat} (h : i < n) : (dup v k n)[i]? = some v := by
  unfold dup
  rw [List.getElem?_append_left (by simpa using h)]
  simp [h]
theorem cell_new (w : World) (v : Value) (T : TypeId) : (w.alloc (.cells #[v] T)).cell? ⟨w.heap.size, 0, none⟩ = some v := by rw [World.cell?, heap_alloc_new]; rfl
/-- What Repeat leaves. -/
def RepRet (w : World) (v : Value) (k : Nat) (e : Ending) (w' : World) : Prop :=
  ∃ g, e = .returned (.slice (some ⟨g, 0, none⟩) k k) ∧ w.heap.size ≤ g ∧ g < w'.heap.size ∧ w'.heap[g]? = some (.cells (List.replicate k v).toArray 24 (0, 0)) ∧ Below w.heap.size w w'
set_option maxHeartbeats 1600000 in
theorem repeat_any (w : World) (b : Nat) (a0 : Option Addr) (n0 c0 : Nat) (hb0 : b < w.heap.size) (hc0 : w.cell? ⟨b, 0, none⟩ = some (.slice a0 n0 c0)) (k : Nat) (hk : k ≤ 24) :
    Calls Try.prog 58 #[.slice (some ⟨b, 0, none⟩) 1 1, .int .i64 k] w (RepRet w (.slice a0 n0 c0) k) := by
  obtain ⟨i0, hi, hz0, hz1, hz2⟩ := info_parts infoInts
  have hsz : (Try.prog.info? 24).map (·.size) = some 1 := by rw [hi]; simp [hz1]
  obtain ⟨v, hv⟩ : ∃ v, v = Value.slice a0 n0 c0 := ⟨_, rfl⟩
  have h1 : ∀ m, ∀ x ∈ List.replicate m v, x.oneCell' = true := by
    intro m x hx
    rw [(List.mem_replicate.1 hx).2, hv]
    rfl
  rw [← hv] at hc0 ⊢
  replace hv := hidI hv
  replace h1 := hidI h1
  have hk0 : ¬ (k : Int) < 0 := by omega
  go_enter Try.func58, Try.ntmps58
  go_wp2_with fail
  refine (mul_one' w k hk).mono ?_
  rintro e w1 ⟨rfl, rfl⟩
  go_wp2_with (at_make; go_must (refine wpList_make_full _ rfl _ _ 52 rfl w.heap.size 24 i0 (.slice none 0 0) 1 Try.underlying52 hi hz0 hz1 .i64 .i64 _ _ k rfl rfl rfl rfl ?c1 ?c2 ?c3 ?_))
  case c1 => rw [hz2]; omega
  case c2 => unfold maxLen; omega
  case c3 => exact Nat.le_refl _
  intro w1 hown hg
  have hb := (Below.refl w.heap.size w).grown hg (Nat.le_refl _) (by intro j hj; cases hj)
  have hh : w1.heap[w.heap.size]? = some (.cells (dup v k 0).toArray 24 (0, 0)) := by
    obtain ⟨_, ⟨h0, _⟩ | ⟨g, cap, cur, hv', hg', hh', hcap, hmax, hsz', htk⟩⟩ := hown
    · cases h0
    · simp only [Value.slice.injEq, Option.some.injEq, Addr.mk.injEq] at hv'
      obtain ⟨⟨rfl, _⟩, _, rfl⟩ := hv'
      rw [hh']
      congr 2
      rw [toList_madeCells_one] at htk
      rw [List.take_of_length_le (by simp; omega)] at htk
      rw [← Array.toList_inj, htk]
      simp [dup]
  have hbm := hg.size
  clear hg hown hi hz0 hz1 hz2
  obtain ⟨g, hgs⟩ : ∃ g, g = w.heap.size := ⟨_, rfl⟩
  rw [← hgs] at hh
  have hcw : w1.cell? ⟨b, 0, none⟩ = some v := by rw [hb.cell (p := ⟨b, 0, none⟩) hb0]; exact hc0
  have hgw : ¬ w.heap.size ≤ b := by omega
  have hkk : ((k : Int) != (k : Int)) = false := by simp
  have hdl0 := dup_length v k 0 (by omega)
  replace hh := hidI hh
  replace hb := hidI hb
  have hmin : (List.replicate (min 1 k) v).length = Nat.min 1 k := by simp
  have hpos : 0 < (List.replicate (min 1 k) v).length → (some (⟨g, 0, none⟩ : Addr)) = some ⟨g, 0, none⟩ ∧ ∃ ad, (some (⟨b, 0, none⟩ : Addr)) = some ad ∧ ∀ j x, (List.replicate (min 1 k) v)[j]? = some x → w1.cell? (ad.add j) = some x := by
    intro h0
    refine ⟨rfl, _, rfl, fun j x hx => ?_⟩
    rw [List.getElem?_replicate] at hx
    split at hx
    · obtain rfl : j = 0 := by omega
      cases hx
      simpa [Addr.add] using hcw
    · cases hx
  have hfit : 0 + (List.replicate (min 1 k) v).length ≤ (dup v k 0).length := by rw [hdl0]; simp; omega
  have hspl := dup_splice v k 0 (min 1 k) (by omega)
  obtain ⟨cs, hcs⟩ : ∃ cs, cs = List.replicate (min 1 k) v := ⟨_, rfl⟩
  have h1c : ∀ x ∈ cs, x.oneCell' = true := by rw [hcs]; exact h1.out _
  rw [← hcs] at hmin hpos hfit hspl
  have hcl : cs.length = min 1 k := hmin
  replace hmin := hidI hmin
  replace hpos := hidI hpos
  replace hspl := hidI hspl
  replace h1c := hidI h1c
  replace hcs := hidI hcs
  replace hgs := hidI hgs
  replace hsz := hidI hsz
  have hBg : w.heap.size ≤ g := by have := hgs.out; omega
  rw [← hgs.out]
  go_wp2_with (with_reducible refine wpList_copy_splice rfl (.tmp 31) (.tmp 32) 52 52 rfl 24 Try.underlying52 hsz.out (some ⟨g, 0, none⟩) (some ⟨b, 0, none⟩) k k 1 1 rfl rfl g 0 (dup v k 0) 24 hh.out cs hmin.out hpos.out hfit h1c.out w.heap.size w hb.out hBg ?_)
  intro w2 hh2 hb2
  rw [hspl.out, Nat.zero_add] at hh2
  obtain ⟨q, hq⟩ : ∃ q, q = min 1 k := ⟨_, rfl⟩
  rw [← hq] at hh2 ⊢
  have hq1 : q ≤ k := by omega
  have hq2 : k = 0 ∨ 1 ≤ q := by omega
  have hgs2 : g < w2.heap.size := (Array.getElem?_eq_some_iff.1 hh2.out).1
  replace hq := hidI hq
  replace hq2 := hidI hq2
  replace hcl := hidI hcl
  replace hb := hidI hb.out
  clear hspl hpos hmin hcs h1c hfit hh hcw hcl hq hdl0
  go_wp2
  go_loopg [8] (k - q) (fun g' n wr => ∃ j : Nat, j ≤ k ∧ Hid (k = 0 ∨ 1 ≤ j) ∧ g' = k - j ∧ n = .int .i64 j ∧ Hid (wr.heap[g]? = some (.cells (dup v k j).toArray 24 (0, 0))) ∧ Below w.heap.size w wr)
  case atStart => exact ⟨q, hq1, hq2, rfl, rfl, hh2, hb2⟩
  case round =>
    clear hh2 hb2 hgs2 hq2
    obtain ⟨j, hj1, hj2, rfl, rfl, hh3, hb3⟩ := hrel
    by_cases hlt : j < k
    · have hj0 : 1 ≤ j := by have := hj2.out; omega
      obtain ⟨m, hm⟩ : ∃ m, m = min j (k - j) := ⟨_, rfl⟩
      have hspl := hidI (dup_splice v k j m (by omega))
      obtain ⟨cs, hcs⟩ : ∃ cs, cs = List.replicate m v := ⟨_, rfl⟩
      have h1c : ∀ x ∈ cs, x.oneCell' = true := by rw [hcs]; exact h1.out _
      have hcl : cs.length = m := by rw [hcs]; simp
      have hmin : cs.length = Nat.min j (k - j) := by rw [hcl]; exact hm
      have hpos : 0 < cs.length → (some (⟨g, j, none⟩ : Addr)) = some ⟨g, j, none⟩ ∧ ∃ ad, (some (⟨g, 0, none⟩ : Addr)) = some ad ∧ ∀ i x, cs[i]? = some x → wr.drew.cell? (ad.add i) = some x := by
        intro h0
        refine ⟨rfl, _, rfl, fun i x hx => ?_⟩
        rw [hcs, List.getElem?_replicate] at hx
        split at hx
        · cases hx
          have hd : (dup v k j).toArray[i]? = some v := by rw [List.getElem?_toArray]; exact dup_at (by omega)
          rw [World.cell?_drew]
          by_cases hi : i = 0
          · subst hi; simpa [Addr.add, World.cell?, hh3.out] using hd
          · simpa [Addr.add, hi, World.cell?, hh3.out] using hd
        · cases hx
      have hfit : j + cs.length ≤ (dup v k j).length := by rw [hcl, dup_length v k j hj1]; omega
      rw [← hcs] at hspl
      have hmb : m ≤ k := by omega
      have hjm : j + m ≤ k := by omega
      have hm1 : 1 ≤ m := by omega
      have hjk : ¬ (k = j) := by omega
      have hlt2 : (j : Int) < (k : Int) := by omega
      have hmin3 : (j : Int) + (m : Int) ≤ 24 := by omega
      have hwr : IntKind.i64.wrap ((j : Int) + (m : Int)) = (j : Int) + (m : Int) := IntWalk.i64_in _ (by omega)
      replace hmin := hidI hmin
      replace hpos := hidI hpos
      replace h1c := hidI h1c
      replace hcs := hidI hcs
      replace hm := hidI hm
      replace hcl := hidI hcl
      go_wp2
      go_region_law (refine step_copy_splice rfl (.tmp 41) (.tmp 44) 52 52 rfl 24 Try.underlying52 hsz.out (some ⟨g, j, none⟩) (some ⟨g, 0, none⟩) (k - j) (k - j) j k (by simp [Act.eval, Act.put]) (by simp [Act.eval, Act.put]) g j (dup v k j) 24 hh3.out cs hmin.out (fun h0 => ⟨rfl, (hpos.out h0).2⟩) hfit h1c.out w.heap.size w (by exact hb3.drew) hBg ?_; intro w4 hh4 hb4; rw [hspl.out] at hh4; rw [hcl.out])
      go_wp2
      clear hwr
      go_roundg (k - (j + m))
      case rel => exact ⟨j + m, hjm, hidI (.inr (by omega)), rfl, by go_num, hh4, hb4⟩
      case measure => omega
    · obtain rfl : j = k := by omega
      have hd : dup v j j = List.replicate j v := by simp [dup]
      have hr : RepRet w v j (.returned (.slice (some ⟨g, 0, none⟩) j j)) wr := ⟨g, rfl, hBg, (Array.getElem?_eq_some_iff.1 hh3.out).1, by rw [← hd]; exact hh3.out, hb3⟩
      replace hd := hidI hd
      replace hr := hidI hr
      go_wp2
      go_ret
      exact hr.out
/-- The factors of a power. -/
theorem rep_read {w : World} {g k : Nat} {v : Value} {zs : List Int} (hk : k ≤ 24) (hg : w.heap[g]? = some (.cells (List.replicate k v).toArray 24 (0, 0))) (hr : ReadI w.heap.size w v zs) :
    ReadLL w.heap.size w (.slice (some ⟨g, 0, none⟩) k k) (List.replicate k zs) := by
  refine ⟨by simp; omega, some ⟨g, 0, none⟩, k, by simp, .inr ⟨g, 0, rfl, (Array.getElem?_eq_some_iff.1 hg).1, fun i hi => ⟨v, ?_, ?_⟩⟩⟩
  · rw [List.length_replicate] at hi
    simp [World.cell?, hg, hi]
  · rw [List.length_replicate] at hi
    have : (List.replicate k zs).getD i [] = zs := by simp [List.getD_eq_getElem?_getD, hi]
    rw [this]
    exact hr
theorem flat_rep_in {zs : List Int} (h : InR zs) (k : Nat) : InR (List.replicate k zs).flatten := flatten_in (fun z hz => by rw [(List.mem_replicate.1 hz).2]; exact h)
set_option maxHeartbeats 1600000 in
theorem power_some (w : World) (v : Value) (zs : List Int) (k : Int) (h : ReadI w.heap.size w v zs) (hin : InR zs) (hl : zs.length ≤ 30000000) (h1 : -24 ≤ k) (h2 : k ≤ 24) :
    Calls Try.prog 24 #[v, .int .i64 k] w (IntsRet w (powL zs k)) := by
  obtain ⟨n, hn⟩ : ∃ n, n = k.natAbs := ⟨_, rfl⟩
  have hn24 : n ≤ 24 := by omega
  have g1 : ¬ 24 < k := by omega
  have g2 : ¬ k < -24 := by omega
  -- from the factors on
  have last : ∀ (w1 : World) (v1 : Value) (ys : List Int), Below w.heap.size w w1 → ReadI w1.heap.size w1 v1 ys → InR ys → ys.length ≤ 30000000 → powL zs k = redL (rep ys n) →
      ∀ g w2, w1.heap.size ≤ g → w2.heap[g]? = some (.cells (List.replicate n v1).toArray 24 (0, 0)) → Below w1.heap.size w1 w2 →
      Calls Try.prog 54 #[.slice (some ⟨g, 0, none⟩) n n] w2 (IntsRet w (powL zs k)) := by
    intro w1 v1 ys hb hr hi hyl he g w2 hg hheap hb2
    rw [he, rep_flat]
    refine (multiplyAll_any w2 _ _ (rep_read hn24 hheap ((hr.below hb2).mono hb2.size)) (flat_rep_in hi n) ?_).mono ?_
    · have hrl := rep_length ys n
      rw [← rep_flat, hrl]
      have h3 : n * ys.length ≤ 24 * ys.length := Nat.mul_le_mul_right _ hn24
      omega
    · intro e w3 hr3
      exact hr3.over (hb.trans (hb2.mono hb.size))
  replace last := hidI last
  by_cases hneg : k < 0
  · obtain rfl : k = -(n : Int) := by omega
    have hpow0 := powL_neg (zs := zs) g2 hneg
    rw [← hn] at hpow0
    have hpow := hidI hpow0
    clear hpow0
    have hinv := invert_any w v zs h (by omega)
    have hn0 : (0 : Int) < (n : Int) := by omega
    obtain ⟨a, n0, cap, hv⟩ := h.form
    subst hv
    replace hn := hidI hn
    replace h := hidI h
    go_enter Try.func24, Try.ntmps24
    go_wp2_with fail
    refine hinv.mono ?_
    rintro e w1 ⟨v1, rfl, hrow, hb1⟩
    obtain ⟨a1, n1, c1, hv1⟩ := hrow.read.form
    subst hv1
    have hread := hidI hrow.read
    clear hrow hinv
    have hw1s : w1.heap.size < (w1.alloc (.cells #[.slice a1 n1 c1] 24)).heap.size := by simp
    have hba := (Below.refl w1.heap.size w1).alloc (Nat.le_refl _) (.cells #[.slice a1 n1 c1] 24)
    have hrep := repeat_any (w1.alloc (.cells #[.slice a1 n1 c1] 24)) w1.heap.size a1 n1 c1 hw1s (cell_new _ _ _) n hn24
    clear hw1s
    go_wp2_with fail
    refine hrep.mono ?_
    rintro e w2 ⟨g, rfl, hg1, hg2, hheap, hb2⟩
    have hb12 := hba.trans (hb2.mono (by simp))
    have hcall := last.out w1 _ (invL zs) hb1 hread.out InR.invL (by rw [invL_length]; exact hl) hpow.out g w2 (by simp at hg1; omega) hheap hb12
    replace hheap := hidI hheap
    clear hrep hg1 hg2 hb2 hba
    go_wp2_with fail
    refine hcall.mono ?_
    rintro e w3 ⟨v3, rfl, hrow3, hb3⟩
    replace hrow3 := hidI hrow3
    clear hcall
    go_wp2
    go_ret
    exact ⟨_, rfl, hrow3.out, hb3⟩
  · have hpow := hidI (powL_pos (zs := zs) g1 (by omega))
    obtain ⟨a1, n1, c1, hv⟩ := h.form
    subst hv
    have hk0 : k = (n : Int) := by omega
    subst hk0
    have hread := hidI h
    have hpow2 := hidI (show powL zs (n : Int) = redL (rep zs n) from hpow.out)
    replace hn := hidI hn
    have hw1s : w.heap.size < (w.alloc (.cells #[.slice a1 n1 c1] 24)).heap.size := by simp
    have hba := (Below.refl w.heap.size w).alloc (Nat.le_refl _) (.cells #[.slice a1 n1 c1] 24)
    have hrep := repeat_any (w.alloc (.cells #[.slice a1 n1 c1] 24)) w.heap.size a1 n1 c1 hw1s (cell_new _ _ _) n hn24
    clear hw1s h
    go_enter Try.func24, Try.ntmps24
    go_wp2_with fail
    refine hrep.mono ?_
    rintro e w2 ⟨g, rfl, hg1, hg2, hheap, hb2⟩
    have hb12 := hba.trans (hb2.mono (by simp))
    have hcall := last.out w _ zs (Below.refl _ _) hread.out hin hl hpow2.out g w2 (by simp at hg1; omega) hheap hb12
    replace hheap := hidI hheap
    clear hrep hg1 hg2 hb2 hba
    go_wp2_with fail
    refine hcall.mono ?_
    rintro e w3 ⟨v3, rfl, hrow3, hb3⟩
    replace hrow3 := hidI hrow3
    clear hcall
    go_wp2
    go_ret
    exact ⟨_, rfl, hrow3.out, hb3⟩
theorem power_none (w : World) (v : Value) (zs : List Int) (k : Int) (h : ReadI w.heap.size w v zs) (hk : 24 < k ∨ k < -24) :
    Calls Try.prog 24 #[v, .int .i64 k] w (IntsRet w (powL zs k)) := by
  have hr : IntsRet w (powL zs k) (.returned (.slice none 0 0)) w := ⟨_, rfl, ⟨by rw [powL_out hk]; simp, .inl ⟨rfl, powL_out hk⟩⟩, Below.refl _ _⟩
  replace hr := hidI hr
  obtain ⟨a1, n1, c1, hv⟩ := h.form
  subst hv
  clear h
  by_cases h1 : 24 < k
  · clear hk
    go_enter Try.func24, Try.ntmps24
    go_wp2
    go_ret
    exact hr.out
  · have h2 : k < -24 := by omega
    clear hk
    go_enter Try.func24, Try.ntmps24
    go_wp2
    go_ret
    exact hr.out
theorem power_any (w : World) (v : Value) (zs : List Int) (k : Int) (h : ReadI w.heap.size w v zs) (hin : InR zs) (hl : zs.length ≤ 30000000) :
    Calls Try.prog 24 #[v, .int .i64 k] w (IntsRet w (powL zs k)) := by
  by_cases h1 : 24 < k ∨ k < -24
  · exact power_none w v zs k h h1
  · exact power_some w v zs k h hin hl (by omega) (by omega)
end Go.Proofs.Ythjlemcnddkjgaa
