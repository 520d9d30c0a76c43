/- Cores, the program: slices.Repeat of one int. -/
import Derived.Test.YtecceaijdjnflaaGreatQA
import Derived.Laws.CopyOwn
import Derived.Deep.RegionLaw
import Derived.Deep.LoopGhost
import Derived.Laws.MakeOwn
namespace Go.Proofs.YtecceaijdjnflaaGreat
open Go.RowKit
set_option linter.unusedVariables false
set_option linter.unusedSimpArgs false

theorem le_40 {k : Nat} (h : k ≤ 40) : k = 0 ∨ k = 1 ∨ k = 2 ∨ k = 3 ∨ k = 4 ∨ k = 5 ∨ k = 6 ∨ k = 7 ∨ k = 8 ∨ k = 9 ∨ k = 10 ∨ k = 11 ∨ k = 12 ∨ k = 13 ∨ k = 14 ∨ k = 15 ∨ k = 16 ∨ k = 17 ∨ k = 18 ∨ k = 19 ∨ k = 20 ∨ k = 21 ∨ k = 22 ∨ k = 23 ∨ k = 24 ∨ k = 25 ∨ k = 26 ∨ k = 27 ∨ k = 28 ∨ k = 29 ∨ k = 30 ∨ k = 31 ∨ k = 32 ∨ k = 33 ∨ k = 34 ∨ k = 35 ∨ k = 36 ∨ k = 37 ∨ k = 38 ∨ k = 39 ∨ k = 40 := by omega
set_option maxHeartbeats 4000000 in
theorem mul64_oneJ (w : World) (k : Nat) (hk : k ≤ 40) :
    Calls Tryz.prog 107 #[.int .u64 1, .int .u64 k] w fun e w' => e = .returned (.tuple #[.int .u64 0, .int .u64 k]) ∧ w = w' := by
  rcases le_40 hk with rfl | rfl | rfl | rfl | rfl | rfl | rfl | rfl | rfl | rfl | rfl | rfl | rfl | rfl | rfl | rfl | rfl | rfl | rfl | rfl | rfl | rfl | rfl | rfl | rfl | rfl | rfl | rfl | rfl | rfl | rfl | rfl | rfl | rfl | rfl | rfl | rfl | rfl | rfl | rfl | rfl
  all_goals
    go_enter Tryz.func107, Tryz.ntmps107
    go_wp2
    go_ret2
    exact ⟨rfl, rfl⟩
theorem mul_oneJ (w : World) (k : Nat) (hk : k ≤ 40) :
    Calls Tryz.prog 87 #[.int .u64 1, .int .u64 k] w fun e w' => e = .returned (.tuple #[.int .u64 0, .int .u64 k]) ∧ w = w' := by
  go_enter Tryz.func87, Tryz.ntmps87
  go_wp2_with fail
  refine (mul64_oneJ w k hk).mono ?_
  rintro e w' ⟨rfl, rfl⟩
  go_wp2
  go_ret2
  exact ⟨rfl, rfl⟩
/-- n copies of the word, k - n empty places. -/
def dupJ (v : Value) (k n : Nat) : List Value := List.replicate n v ++ List.replicate (k - n) (.int .i64 0)
theorem dupJ_length (v : Value) (k n : Nat) (h : n ≤ k) : (dupJ v k n).length = k := by simp [dupJ]; omega
theorem dupJ_splice (v : Value) (k n m : Nat) (h : n + m ≤ k) : splice (dupJ v k n) n (List.replicate m v) = dupJ v k (n + m) := by
  unfold splice dupJ
  rw [List.take_left' (by simp), List.length_replicate, List.drop_append, List.drop_of_length_le (by simp), List.nil_append, List.length_replicate, List.drop_replicate, ← List.append_assoc, List.replicate_append_replicate]
  congr 2
  omega
theorem dupJ_at {v : Value} {k n i : Nat} (h : i < n) : (dupJ v k n)[i]? = some v := by
  unfold dupJ
  rw [List.getElem?_append_left (by simpa using h)]
  simp [h]
theorem cell_newI (w : World) (v : Value) (T : TypeId) : (w.alloc (.cells #[v] T)).cell? ⟨w.heap.size, 0, none⟩ = some v := by rw [World.cell?, heap_alloc_new]; rfl
/-- What Repeat leaves. -/
def RepRetI (w : World) (v : Value) (k : Nat) (e : Ending) (w' : World) : Prop :=
  ∃ g, e = .returned (.slice (some ⟨g, 0, none⟩) k k) ∧ w.heap.size ≤ g ∧ g < w'.heap.size ∧ w'.heap[g]? = some (.cells (List.replicate k v).toArray 3 (0, 0)) ∧ Below w.heap.size w w'
set_option maxRecDepth 100000 in
set_option maxHeartbeats 3200000 in
theorem repeatI_any (w : World) (b : Nat) (z0 : Int) (hb0 : b < w.heap.size) (hc0 : w.cell? ⟨b, 0, none⟩ = some (.int .i64 z0)) (k : Nat) (hk : k ≤ 40) :
    Calls Tryz.prog 79 #[.slice (some ⟨b, 0, none⟩) 1 1, .int .i64 k] w (RepRetI w (.int .i64 z0) k) := by
  obtain ⟨i0, hi, hz0, hz1, hz2⟩ := info_parts infoInt
  have hsz : (Tryz.prog.info? 3).map (·.size) = some 1 := by rw [hi]; simp [hz1]
  obtain ⟨v, hv⟩ : ∃ v, v = Value.int .i64 z0 := ⟨_, rfl⟩
  have h1 : ∀ m, ∀ x ∈ List.replicate m v, x.oneCell' = true := by
    intro m x hx
    rw [(List.mem_replicate.1 hx).2, hv]
    rfl
  rw [← hv] at hc0 ⊢
  replace hv := hidI hv
  replace h1 := hidI h1
  have hk0 : ¬ (k : Int) < 0 := by omega
  go_enter Tryz.func79, Tryz.ntmps79
  go_wp2_with fail
  refine (mul_oneJ w k hk).mono ?_
  rintro e w1 ⟨rfl, rfl⟩
  go_wp2_with (at_make; go_must (refine wpList_make_full _ rfl _ _ 38 rfl w.heap.size 3 i0 (.int .i64 0) 1 Tryz.underlying38 hi hz0 hz1 .i64 .i64 _ _ k rfl rfl rfl rfl ?c1 ?c2 ?c3 ?_))
  case c1 => rw [hz2]; omega
  case c2 => unfold maxLen; omega
  case c3 => exact Nat.le_refl _
  intro w1 hown hg
  have hb := (Below.refl w.heap.size w).grown hg (Nat.le_refl _) (by intro j hj; cases hj)
  have hh : w1.heap[w.heap.size]? = some (.cells (dupJ v k 0).toArray 3 (0, 0)) := by
    obtain ⟨_, ⟨h0, _⟩ | ⟨g, cap, cur, hv', hg', hh', hcap, hmax, hsz', htk⟩⟩ := hown
    · cases h0
    · simp only [Value.slice.injEq, Option.some.injEq, Addr.mk.injEq] at hv'
      obtain ⟨⟨rfl, _⟩, _, rfl⟩ := hv'
      rw [hh']
      congr 2
      rw [toList_madeCells_one] at htk
      rw [List.take_of_length_le (by simp; omega)] at htk
      rw [← Array.toList_inj, htk]
      simp [dupJ]
  have hbm := hg.size
  clear hg hown hi hz0 hz1 hz2
  obtain ⟨g, hgs⟩ : ∃ g, g = w.heap.size := ⟨_, rfl⟩
  rw [← hgs] at hh
  have hcw : w1.cell? ⟨b, 0, none⟩ = some v := by rw [hb.cell (p := ⟨b, 0, none⟩) hb0]; exact hc0
  have hgw : ¬ w.heap.size ≤ b := by omega
  have hkk : ((k : Int) != (k : Int)) = false := by simp
  have hdl0 := dupJ_length v k 0 (by omega)
  replace hh := hidI hh
  replace hb := hidI hb
  have hmin : (List.replicate (min 1 k) v).length = Nat.min 1 k := by simp
  have hpos : 0 < (List.replicate (min 1 k) v).length → (some (⟨g, 0, none⟩ : Addr)) = some ⟨g, 0, none⟩ ∧ ∃ ad, (some (⟨b, 0, none⟩ : Addr)) = some ad ∧ ∀ j x, (List.replicate (min 1 k) v)[j]? = some x → w1.cell? (ad.add j) = some x := by
    intro h0
    refine ⟨rfl, _, rfl, fun j x hx => ?_⟩
    rw [List.getElem?_replicate] at hx
    split at hx
    · obtain rfl : j = 0 := by omega
      cases hx
      simpa [Addr.add] using hcw
    · cases hx
  have hfit : 0 + (List.replicate (min 1 k) v).length ≤ (dupJ v k 0).length := by rw [hdl0]; simp; omega
  have hspl := dupJ_splice v k 0 (min 1 k) (by omega)
  obtain ⟨cs, hcs⟩ : ∃ cs, cs = List.replicate (min 1 k) v := ⟨_, rfl⟩
  have h1c : ∀ x ∈ cs, x.oneCell' = true := by rw [hcs]; exact h1.out _
  rw [← hcs] at hmin hpos hfit hspl
  have hcl : cs.length = min 1 k := hmin
  replace hmin := hidI hmin
  replace hpos := hidI hpos
  replace hspl := hidI hspl
  replace h1c := hidI h1c
  replace hcs := hidI hcs
  replace hgs := hidI hgs
  replace hsz := hidI hsz
  have hBg : w.heap.size ≤ g := by have := hgs.out; omega
  rw [← hgs.out]
  go_wp2_with (with_reducible refine wpList_copy_splice rfl (.tmp 31) (.tmp 32) 38 38 rfl 3 Tryz.underlying38 hsz.out (some ⟨g, 0, none⟩) (some ⟨b, 0, none⟩) k k 1 1 rfl rfl g 0 (dupJ v k 0) 3 hh.out cs hmin.out hpos.out hfit h1c.out w.heap.size w hb.out hBg ?_)
  intro w2 hh2 hb2
  rw [hspl.out, Nat.zero_add] at hh2
  obtain ⟨q, hq⟩ : ∃ q, q = min 1 k := ⟨_, rfl⟩
  rw [← hq] at hh2 ⊢
  have hq1 : q ≤ k := by omega
  have hq2 : k = 0 ∨ 1 ≤ q := by omega
  have hgs2 : g < w2.heap.size := (Array.getElem?_eq_some_iff.1 hh2.out).1
  replace hq := hidI hq
  replace hq2 := hidI hq2
  replace hcl := hidI hcl
  replace hb := hidI hb.out
  clear hspl hpos hmin hcs h1c hfit hh hcw hcl hq hdl0
  go_wp2
  go_loopg [8] (k - q) (fun g' n wr => ∃ j : Nat, j ≤ k ∧ Hid (k = 0 ∨ 1 ≤ j) ∧ g' = k - j ∧ n = .int .i64 j ∧ Hid (wr.heap[g]? = some (.cells (dupJ v k j).toArray 3 (0, 0))) ∧ Below w.heap.size w wr)
  case atStart => exact ⟨q, hq1, hq2, rfl, rfl, hh2, hb2⟩
  case round =>
    clear hh2 hb2 hgs2 hq2
    obtain ⟨j, hj1, hj2, rfl, rfl, hh3, hb3⟩ := hrel
    by_cases hlt : j < k
    · have hj0 : 1 ≤ j := by have := hj2.out; omega
      obtain ⟨m, hm⟩ : ∃ m, m = min j (k - j) := ⟨_, rfl⟩
      have hspl := hidI (dupJ_splice v k j m (by omega))
      obtain ⟨cs, hcs⟩ : ∃ cs, cs = List.replicate m v := ⟨_, rfl⟩
      have h1c : ∀ x ∈ cs, x.oneCell' = true := by rw [hcs]; exact h1.out _
      have hcl : cs.length = m := by rw [hcs]; simp
      have hmin : cs.length = Nat.min j (k - j) := by rw [hcl]; exact hm
      have hpos : 0 < cs.length → (some (⟨g, j, none⟩ : Addr)) = some ⟨g, j, none⟩ ∧ ∃ ad, (some (⟨g, 0, none⟩ : Addr)) = some ad ∧ ∀ i x, cs[i]? = some x → wr.drew.cell? (ad.add i) = some x := by
        intro h0
        refine ⟨rfl, _, rfl, fun i x hx => ?_⟩
        rw [hcs, List.getElem?_replicate] at hx
        split at hx
        · cases hx
          have hd : (dupJ v k j).toArray[i]? = some v := by rw [List.getElem?_toArray]; exact dupJ_at (by omega)
          rw [World.cell?_drew]
          by_cases hi : i = 0
          · subst hi; simpa [Addr.add, World.cell?, hh3.out] using hd
          · simpa [Addr.add, hi, World.cell?, hh3.out] using hd
        · cases hx
      have hfit : j + cs.length ≤ (dupJ v k j).length := by rw [hcl, dupJ_length v k j hj1]; omega
      rw [← hcs] at hspl
      have hmb : m ≤ k := by omega
      have hjm : j + m ≤ k := by omega
      have hm1 : 1 ≤ m := by omega
      have hjk : ¬ (k = j) := by omega
      have hlt2 : (j : Int) < (k : Int) := by omega
      have hmin3 : (j : Int) + (m : Int) ≤ 40 := by omega
      have hwr : IntKind.i64.wrap ((j : Int) + (m : Int)) = (j : Int) + (m : Int) := IntWalk.i64_in _ (by omega)
      replace hmin := hidI hmin
      replace hpos := hidI hpos
      replace h1c := hidI h1c
      replace hcs := hidI hcs
      replace hm := hidI hm
      replace hcl := hidI hcl
      go_wp2
      go_region_law (refine step_copy_splice rfl (.tmp 41) (.tmp 44) 38 38 rfl 3 Tryz.underlying38 hsz.out (some ⟨g, j, none⟩) (some ⟨g, 0, none⟩) (k - j) (k - j) j k (by simp [Act.eval, Act.put]) (by simp [Act.eval, Act.put]) g j (dupJ v k j) 3 hh3.out cs hmin.out (fun h0 => ⟨rfl, (hpos.out h0).2⟩) hfit h1c.out w.heap.size w (by exact hb3.drew) hBg ?_; intro w4 hh4 hb4; rw [hspl.out] at hh4; rw [hcl.out])
      go_wp2
      clear hwr
      go_roundg (k - (j + m))
      case rel => exact ⟨j + m, hjm, hidI (.inr (by omega)), rfl, by go_num, hh4, hb4⟩
      case measure => omega
    · obtain rfl : j = k := by omega
      have hd : dupJ v j j = List.replicate j v := by simp [dupJ]
      have hr : RepRetI w v j (.returned (.slice (some ⟨g, 0, none⟩) j j)) wr := ⟨g, rfl, hBg, (Array.getElem?_eq_some_iff.1 hh3.out).1, by rw [← hd]; exact hh3.out, hb3⟩
      replace hd := hidI hd
      replace hr := hidI hr
      go_wp2
      go_ret
      exact hr.out
end Go.Proofs.YtecceaijdjnflaaGreat
