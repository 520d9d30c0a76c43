import Derived.WalkKit
import Derived.WalkLawsBesides
import Derived.WalkSpells
import Derived.ProofKit
import Derived.Outline
import Derived.Deep.QuietTactic
import Derived.BigQuiet
import Derived.Deep.RegionLaw
import Derived.IntWalk
import Derived.Laws.MakeOwn
import Derived.OpenShut
import Derived.WalkSmall
import Derived.Laws.AppendOwnNone
import Derived.Test.YtpjlamnjiilgbaaGreatRows
namespace Go.Proofs.YtpjlamnjiilgbaaGreat
open Go.RowKit
set_option linter.unusedVariables false
def IsRow (k : IntKind) (w : World) (a : Option Addr) (len cap : Nat) (zs : List Int) : Prop :=
 (a = none ∧ len = 0 ∧ cap = 0 ∧ zs = []) ∨
 ∃ x, a = some x ∧ len ≤ cap ∧ cap ≤ maxLen ∧ zs.length = cap ∧ (∀ i, i < zs.length → w.cell? (x.add i) = some (.int k (zs.getD i 0))) ∧ ∀ n ∈ zs, (Lit.int k n).wf = true
theorem hidI {p : Prop} (h : p) : Hid p := h
def iv (z : Int) : Value := .int .i64 z
def ReadI (B : Nat) (w : World) (v : Value) (zs : List Int) : Prop :=
 zs.length ≤ 140737488355328 ∧ ∃ a cap, v = .slice a zs.length cap ∧ ((a = none → cap = 0) ∧ zs.length ≤ cap) ∧ (zs = [] ∨ ∃ b off, a = some ⟨b, off, none⟩ ∧ b < B ∧ ∀ i, i < zs.length → w.cell? ⟨b, off + i, none⟩ = some (.int .i64 (zs.getD i 0)))
def RowI (w : World) (lo hi : Nat) (v : Value) (zs : List Int) : Prop :=
 zs.length ≤ 140737488355328 ∧ ((v = .slice none 0 0 ∧ zs = []) ∨
 ∃ g off cap cur, v = .slice (some ⟨g, off, none⟩) zs.length cap ∧ lo ≤ g ∧ g < hi ∧ zs.length ≤ cap ∧ w.heap[g]? = some (.cells cur 3 (0, 0)) ∧ ∀ i, i < zs.length → cur[off + i]? = some (.int .i64 (zs.getD i 0)))
theorem ReadI.below {B : Nat} {w w' : World} {v : Value} {zs : List Int} (h : ReadI B w v zs) (hb : Below B w w') : ReadI B w' v zs := by
 obtain ⟨hl, a, cap, hv, hnil, hc⟩ := h
 refine ⟨hl, a, cap, hv, hnil, hc.imp id ?_⟩
 rintro ⟨b, off, ha, hB, hcell⟩
 exact ⟨b, off, ha, hB, fun i hi => by rw [hb.cell (p := ⟨b, off + i, none⟩) hB]; exact hcell i hi⟩
theorem ReadI.mono {B B' : Nat} {w : World} {v : Value} {zs : List Int} (h : ReadI B w v zs) (hB : B ≤ B') : ReadI B' w v zs := by
 obtain ⟨hl, a, cap, hv, hnil, hc⟩ := h
 refine ⟨hl, a, cap, hv, hnil, hc.imp id ?_⟩
 rintro ⟨b, off, ha, hb, hcell⟩
 exact ⟨b, off, ha, by omega, hcell⟩
theorem RowI.read {w : World} {lo hi : Nat} {v : Value} {zs : List Int} (h : RowI w lo hi v zs) : ReadI hi w v zs := by
 obtain ⟨hl, ⟨rfl, rfl⟩ | ⟨g, off, cap, cur, rfl, hlo, hhi, hcap, hh, hc⟩⟩ := h
 · exact ⟨hl, none, 0, rfl, ⟨fun _ => rfl, Nat.le_refl _⟩, .inl rfl⟩
 · refine ⟨hl, _, _, rfl, ⟨(fun e => by cases e), hcap⟩, .inr ⟨g, off, rfl, hhi, fun i hi => ?_⟩⟩
   simp only [World.cell?, hh]
   simpa using hc i hi
theorem RowI.keep {w w' : World} {lo hi : Nat} {v : Value} {zs : List Int} (h : RowI w lo hi v zs) (hb : ∀ k, lo ≤ k → k < hi → w'.heap[k]? = w.heap[k]?) : RowI w' lo hi v zs := by
 obtain ⟨hl, h1 | ⟨g, off, cap, cur, hv, hlo, hhi, hcap, hh, hc⟩⟩ := h
 · exact ⟨hl, .inl h1⟩
 · exact ⟨hl, .inr ⟨g, off, cap, cur, hv, hlo, hhi, hcap, by rw [hb g hlo hhi]; exact hh, hc⟩⟩
theorem RowI.below {w w' : World} {lo hi B : Nat} {v : Value} {zs : List Int} (h : RowI w lo hi v zs) (hb : Below B w w') (hB : hi ≤ B) : RowI w' lo hi v zs :=
 h.keep (fun k _ hk => hb.block k (by omega))
theorem RowI.grown {w w' : World} {lo hi g : Nat} {v : Value} {zs : List Int} (h : RowI w lo hi v zs) (hg : w.grownBy w' (some g)) (hh : hi ≤ w.heap.size) (hne : g < lo ∨ hi ≤ g) : RowI w' lo hi v zs :=
 h.keep (fun k h1 h2 => hg.block k (by omega) (fun e => by cases e; omega))
theorem RowI.wide {w : World} {lo hi lo' hi' : Nat} {v : Value} {zs : List Int} (h : RowI w lo hi v zs) (h1 : lo' ≤ lo) (h2 : hi ≤ hi') : RowI w lo' hi' v zs := by
 obtain ⟨hl, h3 | ⟨g, off, cap, cur, hv, hlo, hhi, hcap, hh, hc⟩⟩ := h
 · exact ⟨hl, .inl h3⟩
 · exact ⟨hl, .inr ⟨g, off, cap, cur, hv, by omega, by omega, hcap, hh, hc⟩⟩
theorem RowI.of_owns {w : World} {base : Nat} {v : Value} {zs : List Int} (h : w.ownsRow base 3 1 v zs.length (zs.map iv)) (hl : zs.length ≤ 140737488355328) : RowI w base w.heap.size v zs := by
 have hlt := h.lt
 have hcs : ∀ g, v.ownBlock = some g → _ := fun g hg => h.cells (g := g) hg
 obtain ⟨hlen, ⟨rfl, hn⟩ | ⟨g, cap, cur, rfl, hg, hh, hcap, hmax, hsz, htk⟩⟩ := h
 · exact ⟨hl, .inl ⟨rfl, List.length_eq_zero_iff.1 hn⟩⟩
 · refine ⟨hl, .inr ⟨g, 0, cap, cur, rfl, hg, (hlt g rfl).2, hcap, hh, fun i hi => ?_⟩⟩
   have h1 : (zs.map iv)[i]? = some (iv (zs.getD i 0)) := by simp [hi]
   rw [← htk, List.getElem?_take] at h1
   split at h1
   · rw [Nat.zero_add, ← Array.getElem?_toList]; exact h1
   · cases h1
theorem ReadI.at2 {B : Nat} {w : World} {a : Option Addr} {n cap : Nat} {zs : List Int} (h : ReadI B w (.slice a n cap) zs) (i : Nat) (hi : i < zs.length) :
 ∃ b off, a = some ⟨b, off, none⟩ ∧ b < B ∧ w.cell? ⟨b, off + i, none⟩ = some (.int .i64 (zs.getD i 0)) := by
 obtain ⟨_, a', cap', hv, _, hr⟩ := h
 simp only [Value.slice.injEq] at hv
 obtain ⟨rfl, _, rfl⟩ := hv
 rcases hr with h0 | ⟨b, off, ha, hB, hc⟩
 · rw [h0] at hi; simp at hi
 · exact ⟨b, off, ha, hB, hc i hi⟩
theorem infoInt : (Tryz.prog.info? 3).map (fun i => (i.zero, i.size, i.bytes)) = some (some (.int .i64 0), 1, 8) := by kernel_rfl
theorem made_ints (n : Nat) : (madeCells #[Value.int .i64 0] n).toList = (List.replicate n (0 : Int)).map iv := by
 rw [toList_madeCells_one]
 simp [iv]
theorem ret_bool {a b : Bool} (h : a = b) : Ending.returned (.bool a) = .returned (.bool b) := by rw [h]
theorem ret_i {a b : Int} (h : a = b) : Ending.returned (.int .i64 a) = .returned (.int .i64 b) := by rw [h]
def IntsRet (w : World) (zs : List Int) (e : Ending) (w' : World) : Prop :=
 ∃ v, e = .returned v ∧ RowI w' w.heap.size w'.heap.size v zs ∧ Below w.heap.size w w'
def padI (zs : List Int) (k : Nat) : List Int := zs.take k ++ List.replicate (zs.length - k) 0
theorem padI_length (zs : List Int) (k : Nat) (h : k ≤ zs.length) : (padI zs k).length = zs.length := by simp [padI]; omega
theorem padI_zero (zs : List Int) : padI zs 0 = List.replicate zs.length 0 := by simp [padI]
theorem padI_full (zs : List Int) : padI zs zs.length = zs := by simp [padI]
theorem padI_step (zs : List Int) (k : Nat) (h : k < zs.length) : (padI zs k).set k (zs.getD k 0) = padI zs (k + 1) := by
 have e : zs.length - k = (zs.length - (k + 1)) + 1 := by omega
 have hl : (zs.take k).length = k := by rw [List.length_take]; omega
 unfold padI
 rw [List.set_append_right _ _ (by omega), hl, Nat.sub_self, e, List.replicate_succ, List.set_cons_zero, List.take_succ_eq_append_getElem h, List.append_assoc]
 simp [List.getD_eq_getElem?_getD, h]
set_option maxHeartbeats 800000 in
theorem toIntS_any (w : World) (v : Value) (zs : List Int) (h : ReadI w.heap.size w v zs) (hl : zs.length ≤ 1000000000) :
 Calls Tryz.prog 31 #[v] w (IntsRet w zs) := by
 obtain ⟨_, a, cap, rfl, _, hrd⟩ := h
 obtain ⟨n, hn⟩ : ∃ n, n = zs.length := ⟨_, rfl⟩
 obtain ⟨i0, hi, hz0, hz1, hz2⟩ := info_parts infoInt
 rw [← hn] at hl ⊢
 replace hn := hidI hn
 replace hrd := hidI hrd
 go_enter Tryz.func31, Tryz.ntmps31
 go_wp2_with (at_make; go_must (refine wpList_make_full _ rfl _ _ 46 rfl w.heap.size 3 i0 (.int .i64 0) 1 Tryz.underlying46 hi hz0 hz1 .i64 .i64 _ _ n rfl rfl rfl rfl ?c1 ?c2 ?c3 ?_))
 case c1 => rw [hz2]; omega
 case c2 => unfold maxLen; omega
 case c3 => exact Nat.le_refl _
 intro w1 hown hg
 rw [made_ints] at hown
 have hb := (Below.refl w.heap.size w).grown hg (Nat.le_refl _) (by intro k hk; cases hk)
 clear hg hi hz0 hz1 hz2
 replace hown := hidI hown
 go_wp2
 go_loopw [4] (fun i wr => ∃ k : Nat, k ≤ n ∧ i = .int .i64 k ∧ wr.ownsRow w.heap.size 3 1 (.slice (some ⟨w.heap.size, 0, none⟩) n n) n ((padI zs k).map iv) ∧ Below w.heap.size w wr) (fun i _ => n - (intOf i).toNat)
 case atStart => exact ⟨0, Nat.zero_le _, rfl, by rw [padI_zero, ← hn.out]; exact hown.out, hb⟩
 case round =>
  clear hown hb
  obtain ⟨k, hk, rfl, hown, hb⟩ := hrel
  by_cases hlt : k < n
  · obtain ⟨z, hz⟩ : ∃ z, z = zs.getD k 0 := ⟨_, rfl⟩
    have hnl := hn.out
    have hcell : ∃ b off, a = some ⟨b, off, none⟩ ∧ wr.cell? ⟨b, off + k, none⟩ = some (.int .i64 z) := by
     rcases hrd.out with h0 | ⟨b, off, ha, hB, hc⟩
     · rw [h0] at hnl; simp at hnl; omega
     · exact ⟨b, off, ha, by rw [hb.cell (p := ⟨b, off + k, none⟩) hB, hz]; exact hc k (by omega)⟩
    obtain ⟨b, off, rfl, hcell⟩ := hcell
    have hold : ∃ v, wr.cell? ⟨w.heap.size, k, none⟩ = some v := by
     rw [hown.cellAt _ (by omega)]
     exact ⟨_, List.getElem?_eq_getElem (by rw [List.length_map, padI_length _ _ (by omega)]; omega)⟩
    obtain ⟨v, hold⟩ := hold
    have hfr := hown.frozenAt k
    have hst := (hown.stored k (iv z)).1
    rw [← List.map_set, hz, padI_step zs k (by omega), ← hz] at hst
    replace hst := hidI hst
    replace hz := hidI hz
    replace hnl := hidI hnl
    replace hown := hidI hown
    go_wp2
    go_roundw
    case rel => exact ⟨k + 1, by omega, by go_num, hst.out, hb.setCell (Nat.le_refl _) _⟩
    case measure => simp [intOf]; omega
  · obtain rfl : k = n := by omega
    have hrow : RowI wr w.heap.size wr.heap.size (.slice (some ⟨w.heap.size, 0, none⟩) k k) zs := by
     refine RowI.of_owns ?_ (by have := hn.out; omega)
     rw [← hn.out]
     have := hown
     rw [hn.out, padI_full] at this
     rw [← hn.out] at this
     exact this
    replace hrow := hidI hrow
    replace hown := hidI hown
    go_wp2
    go_ret
    exact ⟨_, rfl, hrow.out, hb⟩
def BoolRet (w : World) (b : Bool) (e : Ending) (w' : World) : Prop := e = .returned (.bool b) ∧ ∃ n, w' = w.drewN n
set_option maxHeartbeats 800000 in
theorem eqIntS_same (w : World) (B : Nat) (v1 v2 : Value) (zs : List Int) (h1 : ReadI B w v1 zs) (h2 : ReadI B w v2 zs) :
 Calls Tryz.prog 33 #[v1, v2] w (BoolRet w true) := by
 obtain ⟨hl, a1, cap1, rfl, _, hr1⟩ := h1
 obtain ⟨_, a2, cap2, rfl, _, hr2⟩ := h2
 obtain ⟨n, hn⟩ : ∃ n, n = zs.length := ⟨_, rfl⟩
 rw [← hn] at hl ⊢
 have hcl : ((n : Int) != (n : Int)) = false := by simp
 replace hn := hidI hn
 replace hr1 := hidI hr1
 replace hr2 := hidI hr2
 go_enter Tryz.func33, Tryz.ntmps33
 go_wp2
 go_loopw [5] (fun i wr => ∃ k m : Nat, k ≤ n ∧ i = .int .i64 k ∧ wr = w.drewN m) (fun i _ => n - (intOf i).toNat)
 case atStart => exact ⟨0, 0, Nat.zero_le _, rfl, rfl⟩
 case round =>
  obtain ⟨k, m, hk, rfl, rfl⟩ := hrel
  by_cases hlt : k < n
  · obtain ⟨z, hz⟩ : ∃ z, z = zs.getD k 0 := ⟨_, rfl⟩
    have hnl := hn.out
    have hcell : ∀ a : Option Addr, (zs = [] ∨ ∃ b off, a = some ⟨b, off, none⟩ ∧ b < B ∧ ∀ i, i < zs.length → w.cell? ⟨b, off + i, none⟩ = some (.int .i64 (zs.getD i 0))) → ∃ b off, a = some ⟨b, off, none⟩ ∧ w.cell? ⟨b, off + k, none⟩ = some (.int .i64 z) := by
     intro a h
     rcases h with h0 | ⟨b, off, ha, hB, hc⟩
     · rw [h0] at hnl; simp at hnl; omega
     · exact ⟨b, off, ha, by rw [hz]; exact hc k (by omega)⟩
    obtain ⟨b1, off1, rfl, hc1⟩ := hcell _ hr1.out
    obtain ⟨b2, off2, rfl, hc2⟩ := hcell _ hr2.out
    have hzz : (z != z) = false := by simp
    have hlt2 : (k : Int) < (n : Int) := by omega
    clear hcell
    replace hz := hidI hz
    replace hnl := hidI hnl
    go_wp2
    go_quiet (fail)
    go_wp2
    go_roundw
    case rel => exact ⟨k + 1, _, by omega, by go_num, rfl⟩
    case measure => simp [intOf]; omega
  · go_wp2
    go_ret
    exact ⟨rfl, _, rfl⟩
def marks (k : Int) : Nat → List Int
 | 0 => []
 | n + 1 => k :: marks (k + 1) n
theorem marks_length (n : Nat) : ∀ k : Int, (marks k n).length = n := by
 induction n with
 | zero => intro k; rfl
 | succ n ih => intro k; simp [marks, ih]
theorem marks_getD (n : Nat) : ∀ (k : Int) (i : Nat), i < n → (marks k n).getD i 0 = k + i := by
 induction n with
 | zero => intro k i h; omega
 | succ n ih =>
  intro k i h
  cases i with
  | zero => simp [marks]
  | succ i =>
   have := ih (k + 1) i (by omega)
   simp only [marks, List.getD_cons_succ, this]
   omega
structure Only (lo hi : Nat) (w w' : World) : Prop where
 os : w'.os = w.os
 tape : w'.tape = w.tape
 output : w'.output = w.output
 size : w'.heap.size = w.heap.size
 block : ∀ j, j < lo ∨ hi ≤ j → w'.heap[j]? = w.heap[j]?
theorem Only.refl (lo hi : Nat) (w : World) : Only lo hi w w := ⟨rfl, rfl, rfl, rfl, fun _ _ => rfl⟩
theorem Only.set {lo hi : Nat} {w w' : World} (h : Only lo hi w w') {g j : Nat} (h1 : lo ≤ g) (h2 : g < hi) (v : Value) : Only lo hi w (w'.setCell ⟨g, j, none⟩ v) :=
 ⟨h.os, h.tape, h.output, by rw [← h.size]; simp [World.setCell], fun k hk => by rw [Below.heap_setCell _ _ _ _ (show k ≠ g by omega)]; exact h.block k hk⟩
theorem Only.below {lo hi B : Nat} {w w' : World} (h : Only lo hi w w') (hB : B ≤ lo) : Below B w w' :=
 ⟨h.os, h.tape, h.output, by rw [h.size]; exact Nat.le_refl _, fun k hk => h.block k (.inl (by omega))⟩
theorem RowI.only {w w' : World} {lo hi lo' hi' : Nat} {v : Value} {zs : List Int} (h : RowI w lo hi v zs) (ho : Only lo' hi' w w') (hd : hi ≤ lo' ∨ hi' ≤ lo) : RowI w' lo hi v zs :=
 h.keep (fun k h1 h2 => ho.block k (by omega))
theorem ReadI.only {B lo hi : Nat} {w w' : World} {v : Value} {zs : List Int} (h : ReadI B w v zs) (ho : Only lo hi w w') (hB : B ≤ lo) : ReadI B w' v zs := h.below (ho.below hB)
theorem RowI.stored {w : World} {lo hi g off cap n : Nat} {ys : List Int} (h : RowI w lo hi (.slice (some ⟨g, off, none⟩) n cap) ys) (hn : n = ys.length) (i : Nat) (z : Int) :
 RowI (w.setCell ⟨g, off + i, none⟩ (.int .i64 z)) lo hi (.slice (some ⟨g, off, none⟩) n cap) (ys.set i z) := by
 obtain ⟨hl, h1 | ⟨g', off', cap', cur, hv, hlo, hhi, hcap, hh, hc⟩⟩ := h
 · simp at h1
 · simp only [Value.slice.injEq, Option.some.injEq, Addr.mk.injEq, and_true] at hv
   obtain ⟨⟨rfl, rfl⟩, _, rfl⟩ := hv
   refine ⟨by simpa using hl, .inr ⟨g, off, cap, cur.setIfInBounds (off + i) (.int .i64 z), by simp [hn], hlo, hhi, by simpa using hcap, heap_setCell_same w g (off + i) cur _ _ hh, fun j hj => ?_⟩⟩
   rw [List.length_set] at hj
   have hcj := hc j hj
   rw [Array.getElem?_setIfInBounds]
   by_cases e : i = j
   · subst e
     have : off + i < cur.size := (Array.getElem?_eq_some_iff.1 hcj).1
     rw [if_pos rfl, if_pos this, List.getD_eq_getElem?_getD, List.getElem?_set_self (by omega)]
     rfl
   · rw [if_neg (by omega), hcj, List.getD_eq_getElem?_getD, List.getD_eq_getElem?_getD, List.getElem?_set_ne e]
theorem RowI.form {w : World} {lo hi : Nat} {v : Value} {zs : List Int} (h : RowI w lo hi v zs) (h0 : 0 < zs.length) : ∃ g off cap, v = .slice (some ⟨g, off, none⟩) zs.length cap ∧ lo ≤ g ∧ g < hi := by
 obtain ⟨hl, ⟨_, rfl⟩ | ⟨g, off, cap, cur, hv, hlo, hhi, hcap, hh, hc⟩⟩ := h
 · simp at h0
 · exact ⟨g, off, cap, hv, hlo, hhi⟩
theorem RowI.facts {w : World} {lo hi g off n cap : Nat} {ys : List Int} (h : RowI w lo hi (.slice (some ⟨g, off, none⟩) n cap) ys) (i : Nat) (hi' : i < ys.length) :
 w.cell? ⟨g, off + i, none⟩ = some (.int .i64 (ys.getD i 0)) ∧ w.frozen? ⟨g, off + i, none⟩ = false := by
 obtain ⟨hl, h1 | ⟨g', off', cap', cur, hv, hlo, hhi, hcap, hh, hc⟩⟩ := h
 · simp at h1
 · simp only [Value.slice.injEq, Option.some.injEq, Addr.mk.injEq, and_true] at hv
   obtain ⟨⟨rfl, rfl⟩, _, rfl⟩ := hv
   exact ⟨by simp only [World.cell?, hh]; simpa using hc i hi', frozen_of_row w g (off + i) cur _ hh⟩
def part (k : Int) (zs : List Int) (i : Nat) : List Int := marks k i ++ zs.drop i
theorem part_zero (k : Int) (zs : List Int) : part k zs 0 = zs := by simp [part, marks]
theorem part_full (k : Int) (zs : List Int) : part k zs zs.length = marks k zs.length := by simp [part]
theorem part_length (k : Int) (zs : List Int) (i : Nat) (h : i ≤ zs.length) : (part k zs i).length = zs.length := by simp [part, marks_length]; omega
theorem marks_snoc (n : Nat) : ∀ k : Int, marks k (n + 1) = marks k n ++ [k + n] := by
 induction n with
 | zero => intro k; simp [marks]
 | succ n ih =>
  intro k
  have e : marks k (n + 1 + 1) = k :: marks (k + 1) (n + 1) := rfl
  have e2 : marks k (n + 1) = k :: marks (k + 1) n := rfl
  rw [e, ih (k + 1), e2, List.cons_append]
  congr 2
  simp
  omega
theorem part_step (k : Int) (zs : List Int) (i : Nat) (h : i < zs.length) : (part k zs i).set i (k + i) = part k zs (i + 1) := by
 unfold part
 rw [List.set_append_right _ _ (by rw [marks_length]; exact Nat.le_refl _), marks_length, Nat.sub_self, List.drop_eq_getElem_cons h, List.set_cons_zero, marks_snoc, List.append_assoc]
 rfl
def MarkRet (w : World) (lo hi : Nat) (v : Value) (k : Int) (n : Nat) (e : Ending) (w' : World) : Prop :=
 e = .returned (.int .i64 (k + n)) ∧ RowI w' lo hi v (marks k n) ∧ Only lo hi w w'
set_option maxHeartbeats 800000 in
theorem markIntS_any (w : World) (lo hi : Nat) (v : Value) (zs : List Int) (k : Int) (h : RowI w lo hi v zs) (hk : 0 ≤ k) (hk2 : k ≤ 1000000000000) (hl : zs.length ≤ 1000000000) :
 Calls Tryz.prog 34 #[v, .int .i64 k] w (MarkRet w lo hi v k zs.length) := by
 by_cases h0 : 0 < zs.length
 · obtain ⟨g, off, cap, rfl, hlo, hhi⟩ := h.form h0
   obtain ⟨n, hn⟩ : ∃ n, n = zs.length := ⟨_, rfl⟩
   rw [← hn] at h0 hl h ⊢
   replace hn := hidI hn
   replace h := hidI h
   go_enter Tryz.func34, Tryz.ntmps34
   go_wp2
   go_loopw [1, 5] (fun kk i wr => ∃ j : Nat, j ≤ n ∧ i = .int .i64 j ∧ kk = .int .i64 (k + (j : Int)) ∧ RowI wr lo hi (.slice (some ⟨g, off, none⟩) n cap) (part k zs j) ∧ Only lo hi w wr) (fun _ i _ => n - (intOf i).toNat)
   case atStart => exact ⟨0, Nat.zero_le _, rfl, by simp, by rw [part_zero]; exact h.out, Only.refl _ _ _⟩
   case round =>
    obtain ⟨j, hj, rfl, rfl, hrow, hon⟩ := hrel
    by_cases hlt : j < n
    · have hpl : (part k zs j).length = n := by rw [part_length _ _ _ (by have := hn.out; omega)]; exact hn.out.symm
      obtain ⟨hcell, hfr⟩ := hrow.facts j (by omega)
      obtain ⟨z, hz⟩ : ∃ z, z = (part k zs j).getD j 0 := ⟨_, rfl⟩
      rw [← hz] at hcell
      have hst := hrow.stored hpl.symm j (k + (j : Int))
      rw [part_step k zs j (by have := hn.out; omega)] at hst
      have hon2 := hon.set (j := off + j) hlo hhi (.int .i64 (k + (j : Int)))
      have hsum : k + (j : Int) + 1 = k + ((j + 1 : Nat) : Int) := by omega
      clear hon
      replace hsum := hidI hsum
      replace hpl := hidI hpl
      replace hz := hidI hz
      replace hst := hidI hst
      replace hon2 := hidI hon2
      replace hrow := hidI hrow
      go_wp2
      go_roundw
      case rel => exact ⟨j + 1, by omega, by go_num, by rw [hsum.out], hst.out, hon2.out⟩
      case measure => simp [intOf]; omega
    · obtain rfl : j = n := by omega
      have hrow2 : RowI wr lo hi (.slice (some ⟨g, off, none⟩) j cap) (marks k j) := by
       have := hrow
       rw [hn.out, part_full] at this
       rw [← hn.out] at this
       exact this
      replace hrow := hidI hrow
      replace hrow2 := hidI hrow2
      go_wp2
      go_ret
      exact ⟨rfl, hrow2.out, hon⟩
 · have hz : zs = [] := List.length_eq_zero_iff.1 (by omega)
   subst hz
   obtain ⟨_, a, cap, rfl, _, _⟩ := h.read
   replace h := hidI h
   go_enter Tryz.func34, Tryz.ntmps34
   go_wp2
   go_loop [1, 5] (fun kk i => kk = .int .i64 k ∧ i = .int .i64 0) (fun _ _ => 0)
   case atStart => exact ⟨rfl, rfl⟩
   case round =>
    obtain ⟨rfl, rfl⟩ := hrel
    go_wp2
    go_ret
    exact ⟨ret_i (by simp), h.out, Only.refl _ _ _⟩
set_option maxHeartbeats 800000 in
theorem heldIntS_any (w : World) (B : Nat) (v : Value) (n : Nat) (k : Int) (h : ReadI B w v (marks k n)) (hk : 0 ≤ k) (hk2 : k ≤ 1000000000000) (hl : n ≤ 1000000000) :
 Calls Tryz.prog 35 #[v, .int .i64 k] w fun e w' => e = .returned (.int .i64 (k + n)) ∧ w = w' := by
 obtain ⟨_, a, cap, rfl, _, hr⟩ := h
 rw [marks_length]
 rw [marks_length] at hr
 replace hr := hidI hr
 go_enter Tryz.func35, Tryz.ntmps35
 go_wp2
 go_loop [1, 5] (fun kk i => ∃ j : Nat, j ≤ n ∧ i = .int .i64 j ∧ kk = .int .i64 (k + (j : Int))) (fun _ i => n - (intOf i).toNat)
 case atStart => exact ⟨0, Nat.zero_le _, rfl, by simp⟩
 case round =>
  obtain ⟨j, hj, rfl, rfl⟩ := hrel
  by_cases hlt : j < n
  · have hcell : ∃ b off, a = some ⟨b, off, none⟩ ∧ w.cell? ⟨b, off + j, none⟩ = some (.int .i64 (k + (j : Int))) := by
     rcases hr.out with h0 | ⟨b, off, ha, hB, hc⟩
     · have := congrArg List.length h0
       rw [marks_length] at this
       simp at this
       omega
     · exact ⟨b, off, ha, by rw [hc j hlt, marks_getD n k j hlt]⟩
    obtain ⟨b, off, rfl, hcell⟩ := hcell
    have hsum : k + (j : Int) + 1 = k + ((j + 1 : Nat) : Int) := by omega
    have hne : ((k + (j : Int)) != (k + (j : Int))) = false := by simp
    replace hsum := hidI hsum
    go_wp2
    go_round
    case rel => exact ⟨j + 1, by omega, by go_num, by rw [hsum.out]⟩
    case measure => simp [intOf]; omega
  · obtain rfl : j = n := by omega
    go_wp2
    go_ret
    exact ⟨rfl, rfl⟩
def ng (x : Int) : Int := wrap64 (-x)
def invL (zs : List Int) : List Int := (zs.map ng).reverse
theorem invL_drop (zs : List Int) (j : Nat) (h : j < zs.length) : invL (zs.drop j) = invL (zs.drop (j + 1)) ++ [ng (zs.getD j 0)] := by
 unfold invL
 rw [List.drop_eq_getElem_cons h, List.map_cons, List.reverse_cons]
 simp [List.getD_eq_getElem?_getD, h]
theorem invL_length (zs : List Int) : (invL zs).length = zs.length := by simp [invL]
def cancels (out : List Int) (x : Int) : Bool := decide (0 < out.length ∧ x ≠ 0 ∧ out.getD (out.length - 1) 0 = ng x ∧ out.getD (out.length - 1) 0 ≠ x)
def rstep (out : List Int) (x : Int) : List Int := if cancels out x = true then out.take (out.length - 1) else out ++ [x]
def redL (zs : List Int) : List Int := zs.foldl rstep []
theorem redL_take (zs : List Int) (k : Nat) (h : k < zs.length) : redL (zs.take (k + 1)) = rstep (redL (zs.take k)) (zs.getD k 0) := by
 unfold redL
 rw [List.take_succ_eq_append_getElem h, List.foldl_append]
 simp [List.getD_eq_getElem?_getD, h]
theorem rstep_length (out : List Int) (x : Int) : (rstep out x).length ≤ out.length + 1 := by
 unfold rstep
 split
 · rw [List.length_take]; omega
 · simp
theorem redL_length (zs : List Int) : (redL zs).length ≤ zs.length := by
 suffices h : ∀ (l out : List Int), (l.foldl rstep out).length ≤ out.length + l.length by
  have := h zs []
  simpa [redL] using this
 intro l
 induction l with
 | nil => intro out; simp
 | cons x l ih =>
  intro out
  have h1 := ih (rstep out x)
  have h2 := rstep_length out x
  simp only [List.foldl_cons, List.length_cons]
  omega
theorem rstep_yes {out : List Int} {x : Int} (h : cancels out x = true) : rstep out x = out.take (out.length - 1) := if_pos h
theorem rstep_no {out : List Int} {x : Int} (h : cancels out x = false) : rstep out x = out ++ [x] := by unfold rstep; rw [h]; rfl
def mulL (a b : List Int) : List Int := redL (a ++ b)
theorem mulL_length (a b : List Int) : (mulL a b).length ≤ a.length + b.length := by
 have := redL_length (a ++ b)
 rw [List.length_append] at this
 exact this
def InR (zs : List Int) : Prop := ∀ x ∈ zs, -9223372036854775808 ≤ x ∧ x ≤ 9223372036854775807
theorem InR.nil : InR [] := by intro x h; cases h
theorem InR.append {a b : List Int} (ha : InR a) (hb : InR b) : InR (a ++ b) := by
 intro x hx
 rcases List.mem_append.1 hx with h | h
 · exact ha x h
 · exact hb x h
theorem InR.left {a b : List Int} (h : InR (a ++ b)) : InR a := fun x hx => h x (List.mem_append_left _ hx)
theorem InR.right {a b : List Int} (h : InR (a ++ b)) : InR b := fun x hx => h x (List.mem_append_right _ hx)
theorem InR.head {x : Int} {a : List Int} (h : InR (x :: a)) : -9223372036854775808 ≤ x ∧ x ≤ 9223372036854775807 := h x List.mem_cons_self
theorem InR.tail {x : Int} {a : List Int} (h : InR (x :: a)) : InR a := fun y hy => h y (List.mem_cons_of_mem _ hy)
theorem InR.cons {x : Int} {a : List Int} (hx : -9223372036854775808 ≤ x ∧ x ≤ 9223372036854775807) (h : InR a) : InR (x :: a) := by
 intro y hy
 rcases List.mem_cons.1 hy with rfl | h'
 · exact hx
 · exact h y h'
theorem InR.take {zs : List Int} (h : InR zs) (k : Nat) : InR (zs.take k) := fun x hx => h x (List.mem_of_mem_take hx)
theorem InR.reverse {a : List Int} (h : InR a) : InR a.reverse := fun x hx => h x (List.mem_reverse.1 hx)
theorem InR.getD {a : List Int} (h : InR a) (i : Nat) (hi : i < a.length) : -9223372036854775808 ≤ a.getD i 0 ∧ a.getD i 0 ≤ 9223372036854775807 := by
 apply h
 rw [List.getD_eq_getElem?_getD, List.getElem?_eq_getElem hi]
 exact List.getElem_mem hi
theorem ng_in (x : Int) : -9223372036854775808 ≤ ng x ∧ ng x ≤ 9223372036854775807 := by
 unfold ng wrap64
 omega
theorem ng_of {x : Int} (h : -9223372036854775808 < x) (h2 : x ≤ 9223372036854775807) : ng x = -x := by
 unfold ng wrap64
 omega
theorem ng_min : ng (-9223372036854775808) = -9223372036854775808 := by unfold ng wrap64; omega
theorem ng_ng {x : Int} (h : -9223372036854775808 ≤ x ∧ x ≤ 9223372036854775807) : ng (ng x) = x := by
 unfold ng wrap64
 omega
theorem InR.invL {a : List Int} : InR (invL a) := by
 intro x hx
 obtain ⟨y, _, rfl⟩ := List.mem_map.1 (List.mem_reverse.1 hx)
 exact ng_in y
theorem invL_append (a b : List Int) : invL (a ++ b) = invL b ++ invL a := by simp [invL]
theorem invL_invL {a : List Int} (h : InR a) : invL (invL a) = a := by
 unfold invL
 rw [List.map_reverse, List.reverse_reverse, List.map_map]
 have : ∀ x ∈ a, (ng ∘ ng) x = id x := fun x hx => ng_ng (h x hx)
 rw [List.map_congr_left this, List.map_id]
def inv (y x : Int) : Bool := decide (y + x = 0 ∧ x ≠ 0)
theorem inv_symm (y x : Int) : inv y x = inv x y := by
 unfold inv
 rw [decide_eq_decide]
 omega
def push : List Int → Int → List Int
 | [], x => [x]
 | y :: t, x => if inv y x = true then t else x :: y :: t
theorem push_yes {y x : Int} {t : List Int} (h : inv y x = true) : push (y :: t) x = t := if_pos h
theorem push_no {y x : Int} {t : List Int} (h : inv y x = false) : push (y :: t) x = x :: y :: t := by rw [push, h]; rfl
def stk (s zs : List Int) : List Int := zs.foldl push s
theorem stk_cons (s : List Int) (x : Int) (zs : List Int) : stk s (x :: zs) = stk (push s x) zs := rfl
theorem stk_append (s a b : List Int) : stk s (a ++ b) = stk (stk s a) b := List.foldl_append ..
theorem stk_snoc (s a : List Int) (c : Int) : stk s (a ++ [c]) = push (stk s a) c := by rw [stk_append]; rfl
theorem push_in {s : List Int} {x : Int} (hs : InR s) (hx : -9223372036854775808 ≤ x ∧ x ≤ 9223372036854775807) : InR (push s x) := by
 cases s with
 | nil => exact InR.cons hx InR.nil
 | cons y t =>
  cases h : inv y x with
  | true => rw [push_yes h]; exact hs.tail
  | false => rw [push_no h]; exact InR.cons hx hs
theorem stk_in {zs : List Int} : ∀ {s : List Int}, InR s → InR zs → InR (stk s zs) := by
 induction zs with
 | nil => intro s hs _; exact hs
 | cons x zs ih => intro s hs hz; exact ih (push_in hs hz.head) hz.tail
theorem push_length (s : List Int) (x : Int) : (push s x).length ≤ s.length + 1 := by
 cases s with
 | nil => exact Nat.le_refl _
 | cons y t =>
  cases h : inv y x with
  | true => rw [push_yes h]; simp; omega
  | false => rw [push_no h]; simp
theorem stk_length (zs : List Int) : ∀ s, (stk s zs).length ≤ s.length + zs.length := by
 induction zs with
 | nil => intro s; exact Nat.le_refl _
 | cons x zs ih =>
  intro s
  have h1 := ih (push s x)
  have h2 := push_length s x
  rw [stk_cons, List.length_cons]
  omega
theorem rstep_push {s : List Int} {x : Int} (hs : InR s) (hx : -9223372036854775808 ≤ x ∧ x ≤ 9223372036854775807) : rstep s.reverse x = (push s x).reverse := by
 cases s with
 | nil => rfl
 | cons y t =>
  have hy := hs.head
  have hlast : (y :: t).reverse.getD ((y :: t).reverse.length - 1) 0 = y := by
   rw [List.getD_eq_getElem?_getD]
   simp
  have hc : cancels (y :: t).reverse x = inv y x := by
   unfold cancels inv
   rw [hlast, decide_eq_decide]
   simp only [List.length_reverse, List.length_cons, ne_eq]
   by_cases h1 : x = -9223372036854775808
   · subst h1
     rw [ng_min]
     omega
   · rw [ng_of (by omega) hx.2]
     omega
  cases h : inv y x with
  | true =>
   rw [rstep_yes (by rw [hc]; exact h), push_yes h]
   simp
  | false =>
   rw [rstep_no (by rw [hc]; exact h), push_no h]
   simp
theorem foldl_stk {zs : List Int} : ∀ {s : List Int}, InR s → InR zs → zs.foldl rstep s.reverse = (stk s zs).reverse := by
 induction zs with
 | nil => intro s _ _; rfl
 | cons x zs ih =>
  intro s hs hz
  rw [List.foldl_cons, rstep_push hs hz.head, stk_cons]
  exact ih (push_in hs hz.head) hz.tail
theorem redL_stk {zs : List Int} (h : InR zs) : redL zs = (stk [] zs).reverse := foldl_stk InR.nil h
theorem redL_in {zs : List Int} (h : InR zs) : InR (redL zs) := by rw [redL_stk h]; exact (stk_in InR.nil h).reverse
def Red (s : List Int) : Prop := ∀ p a b q, s = p ++ a :: b :: q → inv a b = false
theorem Red.nil : Red [] := by
 intro p a b q h
 have := congrArg List.length h
 simp at this
theorem Red.tail {x : Int} {s : List Int} (h : Red (x :: s)) : Red s := fun p a b q e => h (x :: p) a b q (by rw [e]; rfl)
theorem Red.cons {x : Int} {s : List Int} (h : Red s) (hx : ∀ y t, s = y :: t → inv x y = false) : Red (x :: s) := by
 intro p a b q e
 cases p with
 | nil =>
  simp only [List.nil_append, List.cons.injEq] at e
  obtain ⟨rfl, e⟩ := e
  exact hx b q e
 | cons z p =>
  simp only [List.cons_append, List.cons.injEq] at e
  exact h p a b q e.2
theorem Red.reverse {s : List Int} (h : Red s) : Red s.reverse := by
 intro p a b q e
 rw [inv_symm]
 refine h q.reverse b a p.reverse ?_
 rw [← List.reverse_reverse s, e]
 simp
theorem Red.push {s : List Int} (h : Red s) (x : Int) : Red (push s x) := by
 cases s with
 | nil => exact Red.cons Red.nil (fun y t e => by cases e)
 | cons y t =>
  cases hi : inv y x with
  | true => rw [push_yes hi]; exact h.tail
  | false =>
   rw [push_no hi]
   refine h.cons (fun y' t' e => ?_)
   cases e
   rw [inv_symm]
   exact hi
theorem Red.stk {zs : List Int} : ∀ {s : List Int}, Red s → Red (stk s zs) := by
 induction zs with
 | nil => intro s h; exact h
 | cons x zs ih => intro s h; exact ih (h.push x)
theorem inv_eq {y x : Int} (h : inv y x = true) : y = -x ∧ x ≠ 0 := by
 unfold inv at h
 rw [decide_eq_true_eq] at h
 omega
theorem push_push {s : List Int} (h : Red s) {a b : Int} (hab : inv a b = true) : push (push s a) b = s := by
 cases s with
 | nil => exact push_yes hab
 | cons y t =>
  cases hi : inv y a with
  | true =>
   rw [push_yes hi]
   have h1 := inv_eq hab
   have h2 := inv_eq hi
   obtain rfl : y = b := by omega
   cases t with
   | nil => rfl
   | cons z t' =>
    have := h [] y z t' rfl
    rw [push_no (by rw [inv_symm]; exact this)]
  | false =>
   rw [push_no hi, push_yes hab]
theorem stk_red (zs : List Int) {s : List Int} (hs : Red s) : stk s (stk [] zs).reverse = stk s zs := by
 suffices h : ∀ (l : List Int), stk s (stk [] l.reverse).reverse = stk s l.reverse by
  have := h zs.reverse
  rwa [List.reverse_reverse] at this
 intro l
 induction l with
 | nil => rfl
 | cons c l ih =>
  rw [List.reverse_cons, stk_snoc, stk_snoc, ← ih]
  cases hr : stk [] l.reverse with
  | nil => rfl
  | cons y t =>
   cases hi : inv y c with
   | true =>
    rw [push_yes hi, List.reverse_cons, stk_snoc, push_push hs.stk hi]
   | false =>
    rw [push_no hi, List.reverse_cons, stk_snoc]
theorem redL_append_red {a b : List Int} (ha : InR a) (hb : InR b) : redL (redL a ++ redL b) = redL (a ++ b) := by
 rw [redL_stk ((redL_in ha).append (redL_in hb)), redL_stk (ha.append hb), stk_append, stk_append, redL_stk ha, redL_stk hb, stk_red _ Red.nil, stk_red _ Red.nil.stk]
theorem redL_redL {a : List Int} (ha : InR a) : redL (redL a) = redL a := by
 have := redL_append_red ha InR.nil
 rw [List.append_nil] at this
 have h0 : redL [] = [] := rfl
 rwa [h0, List.append_nil] at this
theorem inv_ng {y x : Int} (hy : -9223372036854775808 ≤ y ∧ y ≤ 9223372036854775807) (hx : -9223372036854775808 ≤ x ∧ x ≤ 9223372036854775807) : inv (ng y) (ng x) = inv y x := by
 unfold inv
 rw [decide_eq_decide]
 by_cases h1 : x = -9223372036854775808
 · by_cases h2 : y = -9223372036854775808
   · subst h1; subst h2; rw [ng_min]
   · subst h1; rw [ng_min, ng_of (by omega) hy.2]; omega
 · rw [ng_of (by omega) hx.2]
   by_cases h2 : y = -9223372036854775808
   · subst h2; rw [ng_min]; omega
   · rw [ng_of (by omega) hy.2]; omega
theorem stk_inv {l : List Int} (hl : InR l) : ∀ {s : List Int}, Red s → stk s (invL (stk [] l.reverse).reverse) = stk s (invL l.reverse) := by
 induction l with
 | nil => intro s _; rfl
 | cons c l ih =>
  intro s hs
  have hin : InR (stk [] l.reverse) := stk_in InR.nil hl.tail.reverse
  have e1 : ∀ m : List Int, ∀ x : Int, invL (m ++ [x]) = ng x :: invL m := by intro m x; simp [invL]
  have hc := ih hl.tail (hs.push (ng c))
  rw [List.reverse_cons, stk_snoc, e1, stk_cons, ← hc]
  cases hr : stk [] l.reverse with
  | nil => rfl
  | cons y t =>
   rw [hr] at hin
   cases hi : inv y c with
   | true =>
    rw [push_yes hi, List.reverse_cons, e1, stk_cons, push_push hs]
    rw [inv_symm, inv_ng hin.head hl.head]
    exact hi
   | false =>
    rw [push_no hi, List.reverse_cons, e1, stk_cons]
theorem Red.map_ng {s : List Int} (h : Red s) (hin : InR s) : Red (s.map ng) := by
 intro p a b q e
 obtain ⟨p', r', rfl, rfl, h2⟩ := List.map_eq_append_iff.1 e
 obtain ⟨a', r'', rfl, rfl, h3⟩ := List.map_eq_cons_iff.1 h2
 obtain ⟨b', q', rfl, rfl, rfl⟩ := List.map_eq_cons_iff.1 h3
 rw [inv_ng (hin a' (by simp)) (hin b' (by simp))]
 exact h p' a' b' q' rfl
theorem stk_of_red {s : List Int} : ∀ {t : List Int}, Red (s.reverse ++ t) → stk t s = s.reverse ++ t := by
 induction s with
 | nil => intro t _; rfl
 | cons x s ih =>
  intro t h
  rw [List.reverse_cons, List.append_assoc] at h ⊢
  have hp : push t x = x :: t := by
   cases t with
   | nil => rfl
   | cons y t =>
    refine push_no ?_
    rw [inv_symm]
    exact h s.reverse x y t rfl
  rw [stk_cons, hp]
  exact ih h
theorem invL_redL {z : List Int} (hz : InR z) : invL (redL z) = redL (invL z) := by
 have hs : stk [] (invL (redL z)) = stk [] (invL z) := by
  have := stk_inv hz.reverse Red.nil
  rw [List.reverse_reverse] at this
  rw [redL_stk hz]
  exact this
 rw [redL_stk InR.invL, ← hs]
 have hr : Red (stk [] z) := Red.nil.stk
 have hi : InR (stk [] z) := stk_in InR.nil hz
 have e : invL (stk [] z).reverse = (stk [] z).map ng := by simp [invL]
 have h1 := (hr.map_ng hi).reverse
 have h2 : stk [] ((stk [] z).map ng) = ((stk [] z).map ng).reverse ++ [] := stk_of_red (by rw [List.append_nil]; exact h1)
 rw [redL_stk hz, e, h2, List.append_nil, List.reverse_reverse]
theorem below_dn {B : Nat} {a w : World} (h : Below B a w) (n : Nat) : Below B a (w.drewN n) := ⟨h.os, h.tape, h.output, h.size, h.block⟩
def SameRet (w : World) (b : Bool) (e : Ending) (w' : World) : Prop := e = .returned (.bool b) ∧ Below w.heap.size w w' ∧ w'.heap.size = w.heap.size
theorem eqIntS_law (w : World) (v1 v2 : Value) (zs : List Int) (h1 : ReadI w.heap.size w v1 zs) (h2 : ReadI w.heap.size w v2 zs) :
 Calls Tryz.prog 33 #[v1, v2] w (SameRet w true) :=
 (eqIntS_same w w.heap.size v1 v2 zs h1 h2).mono fun e w' ⟨he, n, hw⟩ => ⟨he, by rw [hw]; exact below_dn (Below.refl _ _) n, by rw [hw]; rfl⟩
theorem wf_i64 {n : Int} (h : (Lit.int .i64 n).wf = true) : -9223372036854775808 ≤ n ∧ n ≤ 9223372036854775807 := bounds_i64 h
theorem row_len {k : IntKind} {w : World} {a : Option Addr} {len cap : Nat} {zs : List Int} (h : IsRow k w a len cap zs) : len ≤ 9223372036854775807 := by
 rcases h with ⟨_, h0, _, _⟩ | ⟨x, rfl, hlc, hcm, _⟩
 · omega
 · unfold maxLen at hcm; omega
theorem readI_row {w : World} {a : Option Addr} {len cap : Nat} {zs : List Int} (h : IsRow .i64 w a len cap zs) (hl : len ≤ 1048576) :
 ReadI w.heap.size w (.slice a len cap) (zs.take len) ∧ InR (zs.take len) ∧ (zs.take len).length = len := by
 rcases h with ⟨rfl, rfl, rfl, rfl⟩ | ⟨x, rfl, hlc, hcm, hz, hcell, hwf⟩
 · exact ⟨⟨by simp, none, 0, rfl, ⟨fun _ => rfl, Nat.le_refl _⟩, .inl rfl⟩, InR.nil, rfl⟩
 · have htl : (zs.take len).length = len := by rw [List.length_take]; omega
   refine ⟨⟨by omega, some x, cap, by rw [htl], ⟨(fun e => by cases e), by omega⟩, ?_⟩, fun y hy => wf_i64 (hwf y (List.mem_of_mem_take hy)), htl⟩
   rcases Nat.eq_zero_or_pos len with h0 | h0
   · left; subst h0; rfl
   · right
     have c0 := hcell 0 (by omega)
     obtain ⟨b, off, spot⟩ := x
     have hspot : spot = none := by simpa [Addr.add] using World.cell?_spot c0
     subst hspot
     refine ⟨b, off, rfl, ?_, fun i hi => ?_⟩
     · have c0' : w.cell? ⟨b, off, none⟩ = some (.int .i64 (zs.getD 0 0)) := by simpa [Addr.add] using c0
       rcases Nat.lt_or_ge b w.heap.size with h1 | h1
       · exact h1
       · unfold World.cell? at c0'
         rw [show w.heap[(⟨b, off, none⟩ : Addr).block]? = none from Array.getElem?_eq_none h1] at c0'
         cases c0'
     · have ci := hcell i (by omega)
       have hg : (zs.take len).getD i 0 = zs.getD i 0 := by
        rw [List.getD_eq_getElem?_getD, List.getD_eq_getElem?_getD, List.getElem?_take, if_pos (by omega)]
       rw [hg]
       by_cases hi0 : i = 0
       · subst hi0; simpa [Addr.add] using ci
       · simpa [Addr.add, hi0] using ci
def LwIntsBool (w : World) (zs : List Int) (b : Bool) (e : Ending) (w' : World) : Prop :=
 ∃ v, e = .returned (.tuple #[v, .bool b]) ∧ RowI w' w.heap.size w'.heap.size v zs ∧ Below w.heap.size w w'
def LwInt (w : World) (n : Int) (e : Ending) (w' : World) : Prop := e = .returned (.int .i64 n) ∧ Below w.heap.size w w'
def LwBool (w : World) (b : Bool) (e : Ending) (w' : World) : Prop := e = .returned (.bool b) ∧ Below w.heap.size w w'
def OwnsI (w : World) (base : Nat) (v : Value) (zs : List Int) : Prop := w.ownsRow base 3 1 v zs.length (zs.map iv)
theorem OwnsI.lit (w : World) : OwnsI (w.alloc (.cells #[] 3)) w.heap.size (.slice (some ⟨w.heap.size, 0, none⟩) 0 0) [] := World.ownsRow_lit w #[] 0 (Nat.le_refl _) (Nat.zero_le _) rfl
theorem OwnsI.row {w : World} {base : Nat} {v : Value} {zs : List Int} (h : OwnsI w base v zs) (hl : zs.length ≤ 140737488355328) : RowI w base w.heap.size v zs := RowI.of_owns h hl
theorem OwnsI.drewN {w : World} {base : Nat} {v : Value} {zs : List Int} (h : OwnsI w base v zs) (n : Nat) : OwnsI (w.drewN n) base v zs := h
theorem OwnsI.mono {w : World} {base base' : Nat} {v : Value} {zs : List Int} (h : OwnsI w base v zs) (hb : base' ≤ base) : OwnsI w base' v zs := by
 obtain ⟨h1, h2⟩ := h
 refine ⟨h1, h2.imp id ?_⟩
 rintro ⟨g, cap, cur, a, b, c⟩
 exact ⟨g, cap, cur, a, by omega, c⟩
theorem wpList_pushI {w0 : World} {ops : Array Oper} {rest : List Oper} {o : Oper} {a : Act} {Q : Exit → Act → World → Prop} (hgd : o.guard = none) (s x : Operand)
 (ho : o.op = .call { callee := .builtin .append, args := #[s, x], argTypes := #[46, 46] }) (base : Nat) (v : Value) (zs : List Int) (z : Int)
 (hs : a.eval s = v) (hx : a.eval x = .slice (some ⟨w0.heap.size, 0, none⟩) 1 1) (hown : OwnsI w0 base v zs) (hl : zs.length ≤ 1000000000) (hbase : base ≤ w0.heap.size)
 (h : ∀ v' w', OwnsI w' base v' (zs ++ [z]) → Below base w0 w' → wpList Tryz.prog ops Q rest (a.put o.dst v') w') :
 wpList Tryz.prog ops Q (o :: rest) a (w0.alloc (.cells #[.int .i64 z] 3)) := by
 obtain ⟨i0, hi, hz0, hz1, hz2⟩ := info_parts infoInt
 refine wpList_append_own _ hgd s x 46 ho base 3 i0 (.int .i64 0) 1 8 Tryz.underlying46 hi hz0 hz1 hz2 rfl (by decide) v zs.length (zs.map iv) hs (World.ownsRow.alloc hown _) ⟨w0.heap.size, 0, none⟩ 1 1 [iv z] hx rfl ?_ ?_ ?_ ?_ ?_ ?_
 · intro j u hj
   match j, hj with
   | 0, hj =>
    simp at hj
    subst hj
    simp [Addr.add, iv]
 · intro u hu
   simp at hu
   subst hu
   rfl
 · unfold maxLen; omega
 · omega
 · simp; omega
 · intro v' w' ho' hg _
   refine h v' w' (by unfold OwnsI; simpa using ho') ?_
   exact ((Below.refl base w0).alloc hbase _).grown hg (by simp; omega) (fun k hk => (World.ownsRow.lt hown k hk).1)
theorem wpList_pushAllI {w0 : World} {ops : Array Oper} {rest : List Oper} {o : Oper} {a : Act} {Q : Exit → Act → World → Prop} (hgd : o.guard = none) (s x : Operand)
 (ho : o.op = .call { callee := .builtin .append, args := #[s, x], argTypes := #[46, 46] }) (base : Nat) (v vx : Value) (zs ys : List Int) (B : Nat)
 (hs : a.eval s = v) (hx : a.eval x = vx) (hown : OwnsI w0 base v zs) (hread : ReadI B w0 vx ys) (hl : zs.length + ys.length ≤ 1000000000) (hbase : base ≤ w0.heap.size)
 (h : ∀ v' w', OwnsI w' base v' (zs ++ ys) → Below base w0 w' → wpList Tryz.prog ops Q rest (a.put o.dst v') w') :
 wpList Tryz.prog ops Q (o :: rest) a w0 := by
 obtain ⟨i0, hi, hz0, hz1, hz2⟩ := info_parts infoInt
 obtain ⟨_, ax, cap, rfl, ⟨hnil, _⟩, hr⟩ := hread
 rcases ax with _ | ad
 · have hy : ys = [] := by
    rcases hr with h0 | ⟨b, off, ha, _⟩
    · exact h0
    · cases ha
   subst hy
   rw [hnil rfl] at hx
   refine wpList_append_own_none hgd s x 46 ho base 3 i0 1 Tryz.underlying46 hi v zs.length (zs.map iv) hs hown hx ?_
   exact h v w0 (by rw [List.append_nil]; exact hown) (Below.refl _ _)
 · refine wpList_append_own w0 hgd s x 46 ho base 3 i0 (.int .i64 0) 1 8 Tryz.underlying46 hi hz0 hz1 hz2 rfl (by decide) v zs.length (zs.map iv) hs hown ad ys.length cap (ys.map iv) hx (by simp) ?_ ?_ ?_ ?_ hbase ?_
   · intro j u hj
     rw [List.getElem?_map] at hj
     obtain ⟨y, hy, rfl⟩ := Option.map_eq_some_iff.1 hj
     have hjl : j < ys.length := (List.getElem?_eq_some_iff.1 hy).1
     rcases hr with h0 | ⟨b, off, ha, hB, hc⟩
     · rw [h0] at hjl; simp at hjl
     · cases ha
       have hcj := hc j hjl
       rw [List.getD_eq_getElem?_getD, hy] at hcj
       by_cases hj0 : j = 0
       · subst hj0; simpa [Addr.add, iv] using hcj
       · simpa [Addr.add, hj0, iv] using hcj
   · intro u hu
     obtain ⟨y, _, rfl⟩ := List.mem_map.1 hu
     rfl
   · unfold maxLen; omega
   · omega
   · intro v' w' ho' hg _
     refine h v' w' (by unfold OwnsI; simpa using ho') ?_
     exact (Below.refl base w0).grown hg hbase (fun k hk => (World.ownsRow.lt hown k hk).1)
end Go.Proofs.YtpjlamnjiilgbaaGreat
