import Derived.WalkKit
import Derived.WalkLawsBesides
import Derived.WalkSpells
import Derived.ProofKit
import Derived.Outline
import Derived.Deep.QuietTactic
import Derived.BigQuiet
import Derived.Deep.RegionLaw
import Derived.IntWalk
import Derived.Laws.MakeOwn
import Derived.OpenShut
import Derived.WalkSmall
import Derived.Laws.AppendOwnNone
import Derived.Test.YtpjlamnjiilgbaaGreatRows
namespace Go.Proofs.YtpjlamnjiilgbaaGreat
open Go.RowKit
set_option linter.unusedVariables false
def IsRow (k : IntKind) (w : World) (a : Option Addr) (len cap : Nat) (zs : List Int) : Prop :=
 (a = none ∧ len = 0 ∧ cap = 0 ∧ zs = []) ∨
 ∃ x, a = some x ∧ len ≤ cap ∧ cap ≤ maxLen ∧ zs.length = cap ∧ (∀ i, i < zs.length → w.cell? (x.add i) = some (.int k (zs.getD i 0))) ∧ ∀ n ∈ zs, (Lit.int k n).wf = true
theorem hidI {p : Prop} (h : p) : Hid p := h
def iv (z : Int) : Value := .int .i64 z
def ReadI (B : Nat) (w : World) (v : Value) (zs : List Int) : Prop :=
 zs.length ≤ 140737488355328 ∧ ∃ a cap, v = .slice a zs.length cap ∧ ((a = none → cap = 0) ∧ zs.length ≤ cap) ∧ (zs = [] ∨ ∃ b off, a = some ⟨b, off, none⟩ ∧ b < B ∧ ∀ i, i < zs.length → w.cell? ⟨b, off + i, none⟩ = some (.int .i64 (zs.getD i 0)))
def RowI (w : World) (lo hi : Nat) (v : Value) (zs : List Int) : Prop :=
 zs.length ≤ 140737488355328 ∧ ((v = .slice none 0 0 ∧ zs = []) ∨
 ∃ g off cap cur, v = .slice (some ⟨g, off, none⟩) zs.length cap ∧ lo ≤ g ∧ g < hi ∧ zs.length ≤ cap ∧ w.heap[g]? = some (.cells cur 3 (0, 0)) ∧ ∀ i, i < zs.length → cur[off + i]? = some (.int .i64 (zs.getD i 0)))
theorem ReadI.below {B : Nat} {w w' : World} {v : Value} {zs : List Int} (h : ReadI B w v zs) (hb : Below B w w') : ReadI B w' v zs := by
 obtain ⟨hl, a, cap, hv, hnil, hc⟩ := h
 refine ⟨hl, a, cap, hv, hnil, hc.imp id ?_⟩
 rintro ⟨b, off, ha, hB, hcell⟩
 exact ⟨b, off, ha, hB, fun i hi => by rw [hb.cell (p := ⟨b, off + i, none⟩) hB]; exact hcell i hi⟩
theorem ReadI.mono {B B' : Nat} {w : World} {v : Value} {zs : List Int} (h : ReadI B w v zs) (hB : B ≤ B') : ReadI B' w v zs := by
 obtain ⟨hl, a, cap, hv, hnil, hc⟩ := h
 refine ⟨hl, a, cap, hv, hnil, hc.imp id ?_⟩
 rintro ⟨b, off, ha, hb, hcell⟩
 exact ⟨b, off, ha, by omega, hcell⟩
theorem RowI.read {w : World} {lo hi : Nat} {v : Value} {zs : List Int} (h : RowI w lo hi v zs) : ReadI hi w v zs := by
 obtain ⟨hl, ⟨rfl, rfl⟩ | ⟨g, off, cap, cur, rfl, hlo, hhi, hcap, hh, hc⟩⟩ := h
 · exact ⟨hl, none, 0, rfl, ⟨fun _ => rfl, Nat.le_refl _⟩, .inl rfl⟩
 · refine ⟨hl, _, _, rfl, ⟨(fun e => by cases e), hcap⟩, .inr ⟨g, off, rfl, hhi, fun i hi => ?_⟩⟩
   simp only [World.cell?, hh]
   simpa using hc i hi
theorem RowI.keep {w w' : World} {lo hi : Nat} {v : Value} {zs : List Int} (h : RowI w lo hi v zs) (hb : ∀ k, lo ≤ k → k < hi → w'.heap[k]? = w.heap[k]?) : RowI w' lo hi v zs := by
 obtain ⟨hl, h1 | ⟨g, off, cap, cur, hv, hlo, hhi, hcap, hh, hc⟩⟩ := h
 · exact ⟨hl, .inl h1⟩
 · exact ⟨hl, .inr ⟨g, off, cap, cur, hv, hlo, hhi, hcap, by rw [hb g hlo hhi]; exact hh, hc⟩⟩
theorem RowI.below {w w' : World} {lo hi B : Nat} {v : Value} {zs : List Int} (h : RowI w lo hi v zs) (hb : Below B w w') (hB : hi ≤ B) : RowI w' lo hi v zs :=
 h.keep (fun k _ hk => hb.block k (by omega))
theorem RowI.grown {w w' : World} {lo hi g : Nat} {v : Value} {zs : List Int} (h : RowI w lo hi v zs) (hg : w.grownBy w' (some g)) (hh : hi ≤ w.heap.size) (hne : g < lo ∨ hi ≤ g) : RowI w' lo hi v zs :=
 h.keep (fun k h1 h2 => hg.block k (by omega) (fun e => by cases e; omega))
theorem RowI.wide {w : World} {lo hi lo' hi' : Nat} {v : Value} {zs : List Int} (h : RowI w lo hi v zs) (h1 : lo' ≤ lo) (h2 : hi ≤ hi') : RowI w lo' hi' v zs := by
 obtain ⟨hl, h3 | ⟨g, off, cap, cur, hv, hlo, hhi, hcap, hh, hc⟩⟩ := h
 · exact ⟨hl, .inl h3⟩
 · exact ⟨hl, .inr ⟨g, off, cap, cur, hv, by omega, by omega, hcap, hh, hc⟩⟩
theorem RowI.of_owns {w : World} {base : Nat} {v : Value} {zs : List Int} (h : w.ownsRow base 3 1 v zs.length (zs.map iv)) (hl : zs.length ≤ 140737488355328) : RowI w base w.heap.size v zs := by
 have hlt := h.lt
 have hcs : ∀ g, v.ownBlock = some g → _ := fun g hg => h.cells (g := g) hg
 obtain ⟨hlen, ⟨rfl, hn⟩ | ⟨g, cap, cur, rfl, hg, hh, hcap, hmax, hsz, htk⟩⟩ := h
 · exact ⟨hl, .inl ⟨rfl, List.length_eq_zero_iff.1 hn⟩⟩
 · refine ⟨hl, .inr ⟨g, 0, cap, cur, rfl, hg, (hlt g rfl).2, hcap, hh, fun i hi => ?_⟩⟩
   have h1 : (zs.map iv)[i]? = some (iv (zs.getD i 0)) := by simp [hi]
   rw [← htk, List.getElem?_take] at h1
   split at h1
   · rw [Nat.zero_add, ← Array.getElem?_toList]; exact h1
   · cases h1
theorem ReadI.at2 {B : Nat} {w : World} {a : Option Addr} {n cap : Nat} {zs : List Int} (h : ReadI B w (.slice a n cap) zs) (i : Nat) (hi : i < zs.length) :
 ∃ b off, a = some ⟨b, off, none⟩ ∧ b < B ∧ w.cell? ⟨b, off + i, none⟩ = some (.int .i64 (zs.getD i 0)) := by
 obtain ⟨_, a', cap', hv, _, hr⟩ := h
 simp only [Value.slice.injEq] at hv
 obtain ⟨rfl, _, rfl⟩ := hv
 rcases hr with h0 | ⟨b, off, ha, hB, hc⟩
 · rw [h0] at hi; simp at hi
 · exact ⟨b, off, ha, hB, hc i hi⟩
theorem infoInt : (Tryz.prog.info? 3).map (fun i => (i.zero, i.size, i.bytes)) = some (some (.int .i64 0), 1, 8) := by kernel_rfl
theorem made_ints (n : Nat) : (madeCells #[Value.int .i64 0] n).toList = (List.replicate n (0 : Int)).map iv := by
 rw [toList_madeCells_one]
 simp [iv]
theorem ret_bool {a b : Bool} (h : a = b) : Ending.returned (.bool a) = .returned (.bool b) := by rw [h]
theorem ret_i {a b : Int} (h : a = b) : Ending.returned (.int .i64 a) = .returned (.int .i64 b) := by rw [h]
def IntsRet (w : World) (zs : List Int) (e : Ending) (w' : World) : Prop :=
 ∃ v, e = .returned v ∧ RowI w' w.heap.size w'.heap.size v zs ∧ Below w.heap.size w w'
def padI (zs : List Int) (k : Nat) : List Int := zs.take k ++ List.replicate (zs.length - k) 0
theorem padI_length (zs : List Int) (k : Nat) (h : k ≤ zs.length) : (padI zs k).length = zs.length := by simp [padI]; omega
theorem padI_zero (zs : List Int) : padI zs 0 = List.replicate zs.length 0 := by simp [padI]
theorem padI_full (zs : List Int) : padI zs zs.length = zs := by simp [padI]
theorem padI_step (zs : List Int) (k : Nat) (h : k < zs.length) : (padI zs k).set k (zs.getD k 0) = padI zs (k + 1) := by
 have e : zs.length - k = (zs.length - (k + 1)) + 1 := by omega
 have hl : (zs.take k).length = k := by rw [List.length_take]; omega
 unfold padI
 rw [List.set_append_right _ _ (by omega), hl, Nat.sub_self, e, List.replicate_succ, List.set_cons_zero, List.take_succ_eq_append_getElem h, List.append_assoc]
 simp [List.getD_eq_getElem?_getD, h]
set_option maxHeartbeats 800000 in
theorem toIntS_any (w : World) (v : Value) (zs : List Int) (h : ReadI w.heap.size w v zs) (hl : zs.length ≤ 1000000000) :
 Calls Tryz.prog 31 #[v] w (IntsRet w zs) := by
 obtain ⟨_, a, cap, rfl, _, hrd⟩ := h
 obtain ⟨n, hn⟩ : ∃ n, n = zs.length := ⟨_, rfl⟩
 obtain ⟨i0, hi, hz0, hz1, hz2⟩ := info_parts infoInt
 rw [← hn] at hl ⊢
 replace hn := hidI hn
 replace hrd := hidI hrd
 go_enter Tryz.func31, Tryz.ntmps31
 go_wp2_with (at_make; go_must (refine wpList_make_full _ rfl _ _ 46 rfl w.heap.size 3 i0 (.int .i64 0) 1 Tryz.underlying46 hi hz0 hz1 .i64 .i64 _ _ n rfl rfl rfl rfl ?c1 ?c2 ?c3 ?_))
 case c1 => rw [hz2]; omega
 case c2 => unfold maxLen; omega
 case c3 => exact Nat.le_refl _
 intro w1 hown hg
 rw [made_ints] at hown
 have hb := (Below.refl w.heap.size w).grown hg (Nat.le_refl _) (by intro k hk; cases hk)
 clear hg hi hz0 hz1 hz2
 replace hown := hidI hown
 go_wp2
 go_loopw [4] (fun i wr => ∃ k : Nat, k ≤ n ∧ i = .int .i64 k ∧ wr.ownsRow w.heap.size 3 1 (.slice (some ⟨w.heap.size, 0, none⟩) n n) n ((padI zs k).map iv) ∧ Below w.heap.size w wr) (fun i _ => n - (intOf i).toNat)
 case atStart => exact ⟨0, Nat.zero_le _, rfl, by rw [padI_zero, ← hn.out]; exact hown.out, hb⟩
 case round =>
  clear hown hb
  obtain ⟨k, hk, rfl, hown, hb⟩ := hrel
  by_cases hlt : k < n
  · obtain ⟨z, hz⟩ : ∃ z, z = zs.getD k 0 := ⟨_, rfl⟩
    have hnl := hn.out
    have hcell : ∃ b off, a = some ⟨b, off, none⟩ ∧ wr.cell? ⟨b, off + k, none⟩ = some (.int .i64 z) := by
     rcases hrd.out with h0 | ⟨b, off, ha, hB, hc⟩
     · rw [h0] at hnl; simp at hnl; omega
     · exact ⟨b, off, ha, by rw [hb.cell (p := ⟨b, off + k, none⟩) hB, hz]; exact hc k (by omega)⟩
    obtain ⟨b, off, rfl, hcell⟩ := hcell
    have hold : ∃ v, wr.cell? ⟨w.heap.size, k, none⟩ = some v := by
     rw [hown.cellAt _ (by omega)]
     exact ⟨_, List.getElem?_eq_getElem (by rw [List.length_map, padI_length _ _ (by omega)]; omega)⟩
    obtain ⟨v, hold⟩ := hold
    have hfr := hown.frozenAt k
    have hst := (hown.stored k (iv z)).1
    rw [← List.map_set, hz, padI_step zs k (by omega), ← hz] at hst
    replace hst := hidI hst
    replace hz := hidI hz
    replace hnl := hidI hnl
    replace hown := hidI hown
    go_wp2
    go_roundw
    case rel => exact ⟨k + 1, by omega, by go_num, hst.out, hb.setCell (Nat.le_refl _) _⟩
    case measure => simp [intOf]; omega
  · obtain rfl : k = n := by omega
    have hrow : RowI wr w.heap.size wr.heap.size (.slice (some ⟨w.heap.size, 0, none⟩) k k) zs := by
     refine RowI.of_owns ?_ (by have := hn.out; omega)
     rw [← hn.out]
     have := hown
     rw [hn.out, padI_full] at this
     rw [← hn.out] at this
     exact this
    replace hrow := hidI hrow
    replace hown := hidI hown
    go_wp2
    go_ret
    exact ⟨_, rfl, hrow.out, hb⟩
def BoolRet (w : World) (b : Bool) (e : Ending) (w' : World) : Prop := e = .returned (.bool b) ∧ ∃ n, w' = w.drewN n
set_option maxHeartbeats 800000 in
theorem eqIntS_same (w : World) (B : Nat) (v1 v2 : Value) (zs : List Int) (h1 : ReadI B w v1 zs) (h2 : ReadI B w v2 zs) :
 Calls Tryz.prog 33 #[v1, v2] w (BoolRet w true) := by
 obtain ⟨hl, a1, cap1, rfl, _, hr1⟩ := h1
 obtain ⟨_, a2, cap2, rfl, _, hr2⟩ := h2
 obtain ⟨n, hn⟩ : ∃ n, n = zs.length := ⟨_, rfl⟩
 rw [← hn] at hl ⊢
 have hcl : ((n : Int) != (n : Int)) = false := by simp
 replace hn := hidI hn
 replace hr1 := hidI hr1
 replace hr2 := hidI hr2
 go_enter Tryz.func33, Tryz.ntmps33
 go_wp2
 go_loopw [5] (fun i wr => ∃ k m : Nat, k ≤ n ∧ i = .int .i64 k ∧ wr = w.drewN m) (fun i _ => n - (intOf i).toNat)
 case atStart => exact ⟨0, 0, Nat.zero_le _, rfl, rfl⟩
 case round =>
  obtain ⟨k, m, hk, rfl, rfl⟩ := hrel
  by_cases hlt : k < n
  · obtain ⟨z, hz⟩ : ∃ z, z = zs.getD k 0 := ⟨_, rfl⟩
    have hnl := hn.out
    have hcell : ∀ a : Option Addr, (zs = [] ∨ ∃ b off, a = some ⟨b, off, none⟩ ∧ b < B ∧ ∀ i, i < zs.length → w.cell? ⟨b, off + i, none⟩ = some (.int .i64 (zs.getD i 0))) → ∃ b off, a = some ⟨b, off, none⟩ ∧ w.cell? ⟨b, off + k, none⟩ = some (.int .i64 z) := by
     intro a h
     rcases h with h0 | ⟨b, off, ha, hB, hc⟩
     · rw [h0] at hnl; simp at hnl; omega
     · exact ⟨b, off, ha, by rw [hz]; exact hc k (by omega)⟩
    obtain ⟨b1, off1, rfl, hc1⟩ := hcell _ hr1.out
    obtain ⟨b2, off2, rfl, hc2⟩ := hcell _ hr2.out
    have hzz : (z != z) = false := by simp
    have hlt2 : (k : Int) < (n : Int) := by omega
    clear hcell
    replace hz := hidI hz
    replace hnl := hidI hnl
    go_wp2
    go_quiet (fail)
    go_wp2
    go_roundw
    case rel => exact ⟨k + 1, _, by omega, by go_num, rfl⟩
    case measure => simp [intOf]; omega
  · go_wp2
    go_ret
    exact ⟨rfl, _, rfl⟩
structure Only (lo hi : Nat) (w w' : World) : Prop where
 os : w'.os = w.os
 tape : w'.tape = w.tape
 output : w'.output = w.output
 size : w'.heap.size = w.heap.size
 block : ∀ j, j < lo ∨ hi ≤ j → w'.heap[j]? = w.heap[j]?
theorem Only.refl (lo hi : Nat) (w : World) : Only lo hi w w := ⟨rfl, rfl, rfl, rfl, fun _ _ => rfl⟩
theorem Only.set {lo hi : Nat} {w w' : World} (h : Only lo hi w w') {g j : Nat} (h1 : lo ≤ g) (h2 : g < hi) (v : Value) : Only lo hi w (w'.setCell ⟨g, j, none⟩ v) :=
 ⟨h.os, h.tape, h.output, by rw [← h.size]; simp [World.setCell], fun k hk => by rw [Below.heap_setCell _ _ _ _ (show k ≠ g by omega)]; exact h.block k hk⟩
theorem Only.below {lo hi B : Nat} {w w' : World} (h : Only lo hi w w') (hB : B ≤ lo) : Below B w w' :=
 ⟨h.os, h.tape, h.output, by rw [h.size]; exact Nat.le_refl _, fun k hk => h.block k (.inl (by omega))⟩
theorem RowI.only {w w' : World} {lo hi lo' hi' : Nat} {v : Value} {zs : List Int} (h : RowI w lo hi v zs) (ho : Only lo' hi' w w') (hd : hi ≤ lo' ∨ hi' ≤ lo) : RowI w' lo hi v zs :=
 h.keep (fun k h1 h2 => ho.block k (by omega))
theorem ReadI.only {B lo hi : Nat} {w w' : World} {v : Value} {zs : List Int} (h : ReadI B w v zs) (ho : Only lo hi w w') (hB : B ≤ lo) : ReadI B w' v zs := h.below (ho.below hB)
theorem RowI.stored {w : World} {lo hi g off cap n : Nat} {ys : List Int} (h : RowI w lo hi (.slice (some ⟨g, off, none⟩) n cap) ys) (hn : n = ys.length) (i : Nat) (z : Int) :
 RowI (w.setCell ⟨g, off + i, none⟩ (.int .i64 z)) lo hi (.slice (some ⟨g, off, none⟩) n cap) (ys.set i z) := by
 obtain ⟨hl, h1 | ⟨g', off', cap', cur, hv, hlo, hhi, hcap, hh, hc⟩⟩ := h
 · simp at h1
 · simp only [Value.slice.injEq, Option.some.injEq, Addr.mk.injEq, and_true] at hv
   obtain ⟨⟨rfl, rfl⟩, _, rfl⟩ := hv
   refine ⟨by simpa using hl, .inr ⟨g, off, cap, cur.setIfInBounds (off + i) (.int .i64 z), by simp [hn], hlo, hhi, by simpa using hcap, heap_setCell_same w g (off + i) cur _ _ hh, fun j hj => ?_⟩⟩
   rw [List.length_set] at hj
   have hcj := hc j hj
   rw [Array.getElem?_setIfInBounds]
   by_cases e : i = j
   · subst e
     have : off + i < cur.size := (Array.getElem?_eq_some_iff.1 hcj).1
     rw [if_pos rfl, if_pos this, List.getD_eq_getElem?_getD, List.getElem?_set_self (by omega)]
     rfl
   · rw [if_neg (by omega), hcj, List.getD_eq_getElem?_getD, List.getD_eq_getElem?_getD, List.getElem?_set_ne e]
theorem RowI.form {w : World} {lo hi : Nat} {v : Value} {zs : List Int} (h : RowI w lo hi v zs) (h0 : 0 < zs.length) : ∃ g off cap, v = .slice (some ⟨g, off, none⟩) zs.length cap ∧ lo ≤ g ∧ g < hi := by
 obtain ⟨hl, ⟨_, rfl⟩ | ⟨g, off, cap, cur, hv, hlo, hhi, hcap, hh, hc⟩⟩ := h
 · simp at h0
 · exact ⟨g, off, cap, hv, hlo, hhi⟩
def ng (x : Int) : Int := wrap64 (-x)
def InR (zs : List Int) : Prop := ∀ x ∈ zs, -9223372036854775808 ≤ x ∧ x ≤ 9223372036854775807
theorem InR.nil : InR [] := by intro x h; cases h
theorem InR.append {a b : List Int} (ha : InR a) (hb : InR b) : InR (a ++ b) := by
 intro x hx
 rcases List.mem_append.1 hx with h | h
 · exact ha x h
 · exact hb x h
theorem InR.left {a b : List Int} (h : InR (a ++ b)) : InR a := fun x hx => h x (List.mem_append_left _ hx)
theorem InR.right {a b : List Int} (h : InR (a ++ b)) : InR b := fun x hx => h x (List.mem_append_right _ hx)
theorem InR.head {x : Int} {a : List Int} (h : InR (x :: a)) : -9223372036854775808 ≤ x ∧ x ≤ 9223372036854775807 := h x List.mem_cons_self
theorem InR.tail {x : Int} {a : List Int} (h : InR (x :: a)) : InR a := fun y hy => h y (List.mem_cons_of_mem _ hy)
theorem InR.cons {x : Int} {a : List Int} (hx : -9223372036854775808 ≤ x ∧ x ≤ 9223372036854775807) (h : InR a) : InR (x :: a) := by
 intro y hy
 rcases List.mem_cons.1 hy with rfl | h'
 · exact hx
 · exact h y h'
theorem InR.take {zs : List Int} (h : InR zs) (k : Nat) : InR (zs.take k) := fun x hx => h x (List.mem_of_mem_take hx)
theorem InR.getD {a : List Int} (h : InR a) (i : Nat) (hi : i < a.length) : -9223372036854775808 ≤ a.getD i 0 ∧ a.getD i 0 ≤ 9223372036854775807 := by
 apply h
 rw [List.getD_eq_getElem?_getD, List.getElem?_eq_getElem hi]
 exact List.getElem_mem hi
theorem ng_of {x : Int} (h : -9223372036854775808 < x) (h2 : x ≤ 9223372036854775807) : ng x = -x := by
 unfold ng wrap64
 omega
theorem ng_min : ng (-9223372036854775808) = -9223372036854775808 := by unfold ng wrap64; omega
def inv (y x : Int) : Bool := decide (y + x = 0 ∧ x ≠ 0)
theorem inv_symm (y x : Int) : inv y x = inv x y := by
 unfold inv
 rw [decide_eq_decide]
 omega
def push : List Int → Int → List Int
 | [], x => [x]
 | y :: t, x => if inv y x = true then t else x :: y :: t
theorem push_yes {y x : Int} {t : List Int} (h : inv y x = true) : push (y :: t) x = t := if_pos h
theorem push_no {y x : Int} {t : List Int} (h : inv y x = false) : push (y :: t) x = x :: y :: t := by rw [push, h]; rfl
def Red (s : List Int) : Prop := ∀ p a b q, s = p ++ a :: b :: q → inv a b = false
theorem Red.nil : Red [] := by
 intro p a b q h
 have := congrArg List.length h
 simp at this
theorem Red.tail {x : Int} {s : List Int} (h : Red (x :: s)) : Red s := fun p a b q e => h (x :: p) a b q (by rw [e]; rfl)
theorem Red.cons {x : Int} {s : List Int} (h : Red s) (hx : ∀ y t, s = y :: t → inv x y = false) : Red (x :: s) := by
 intro p a b q e
 cases p with
 | nil =>
  simp only [List.nil_append, List.cons.injEq] at e
  obtain ⟨rfl, e⟩ := e
  exact hx b q e
 | cons z p =>
  simp only [List.cons_append, List.cons.injEq] at e
  exact h p a b q e.2
theorem Red.push {s : List Int} (h : Red s) (x : Int) : Red (push s x) := by
 cases s with
 | nil => exact Red.cons Red.nil (fun y t e => by cases e)
 | cons y t =>
  cases hi : inv y x with
  | true => rw [push_yes hi]; exact h.tail
  | false =>
   rw [push_no hi]
   refine h.cons (fun y' t' e => ?_)
   cases e
   rw [inv_symm]
   exact hi
theorem below_dn {B : Nat} {a w : World} (h : Below B a w) (n : Nat) : Below B a (w.drewN n) := ⟨h.os, h.tape, h.output, h.size, h.block⟩
def SameRet (w : World) (b : Bool) (e : Ending) (w' : World) : Prop := e = .returned (.bool b) ∧ Below w.heap.size w w' ∧ w'.heap.size = w.heap.size
theorem wf_i64 {n : Int} (h : (Lit.int .i64 n).wf = true) : -9223372036854775808 ≤ n ∧ n ≤ 9223372036854775807 := bounds_i64 h
theorem row_len {k : IntKind} {w : World} {a : Option Addr} {len cap : Nat} {zs : List Int} (h : IsRow k w a len cap zs) : len ≤ 9223372036854775807 := by
 rcases h with ⟨_, h0, _, _⟩ | ⟨x, rfl, hlc, hcm, _⟩
 · omega
 · unfold maxLen at hcm; omega
theorem readI_row {w : World} {a : Option Addr} {len cap : Nat} {zs : List Int} (h : IsRow .i64 w a len cap zs) (hl : len ≤ 1048576) :
 ReadI w.heap.size w (.slice a len cap) (zs.take len) ∧ InR (zs.take len) ∧ (zs.take len).length = len := by
 rcases h with ⟨rfl, rfl, rfl, rfl⟩ | ⟨x, rfl, hlc, hcm, hz, hcell, hwf⟩
 · exact ⟨⟨by simp, none, 0, rfl, ⟨fun _ => rfl, Nat.le_refl _⟩, .inl rfl⟩, InR.nil, rfl⟩
 · have htl : (zs.take len).length = len := by rw [List.length_take]; omega
   refine ⟨⟨by omega, some x, cap, by rw [htl], ⟨(fun e => by cases e), by omega⟩, ?_⟩, fun y hy => wf_i64 (hwf y (List.mem_of_mem_take hy)), htl⟩
   rcases Nat.eq_zero_or_pos len with h0 | h0
   · left; subst h0; rfl
   · right
     have c0 := hcell 0 (by omega)
     obtain ⟨b, off, spot⟩ := x
     have hspot : spot = none := by simpa [Addr.add] using World.cell?_spot c0
     subst hspot
     refine ⟨b, off, rfl, ?_, fun i hi => ?_⟩
     · have c0' : w.cell? ⟨b, off, none⟩ = some (.int .i64 (zs.getD 0 0)) := by simpa [Addr.add] using c0
       rcases Nat.lt_or_ge b w.heap.size with h1 | h1
       · exact h1
       · unfold World.cell? at c0'
         rw [show w.heap[(⟨b, off, none⟩ : Addr).block]? = none from Array.getElem?_eq_none h1] at c0'
         cases c0'
     · have ci := hcell i (by omega)
       have hg : (zs.take len).getD i 0 = zs.getD i 0 := by
        rw [List.getD_eq_getElem?_getD, List.getD_eq_getElem?_getD, List.getElem?_take, if_pos (by omega)]
       rw [hg]
       by_cases hi0 : i = 0
       · subst hi0; simpa [Addr.add] using ci
       · simpa [Addr.add, hi0] using ci
def LwIntsBool (w : World) (zs : List Int) (b : Bool) (e : Ending) (w' : World) : Prop :=
 ∃ v, e = .returned (.tuple #[v, .bool b]) ∧ RowI w' w.heap.size w'.heap.size v zs ∧ Below w.heap.size w w'
def LwInt (w : World) (n : Int) (e : Ending) (w' : World) : Prop := e = .returned (.int .i64 n) ∧ Below w.heap.size w w'
def LwBool (w : World) (b : Bool) (e : Ending) (w' : World) : Prop := e = .returned (.bool b) ∧ Below w.heap.size w w'
def OwnsI (w : World) (base : Nat) (v : Value) (zs : List Int) : Prop := w.ownsRow base 3 1 v zs.length (zs.map iv)
theorem OwnsI.lit (w : World) : OwnsI (w.alloc (.cells #[] 3)) w.heap.size (.slice (some ⟨w.heap.size, 0, none⟩) 0 0) [] := World.ownsRow_lit w #[] 0 (Nat.le_refl _) (Nat.zero_le _) rfl
theorem OwnsI.row {w : World} {base : Nat} {v : Value} {zs : List Int} (h : OwnsI w base v zs) (hl : zs.length ≤ 140737488355328) : RowI w base w.heap.size v zs := RowI.of_owns h hl
theorem OwnsI.drewN {w : World} {base : Nat} {v : Value} {zs : List Int} (h : OwnsI w base v zs) (n : Nat) : OwnsI (w.drewN n) base v zs := h
theorem OwnsI.mono {w : World} {base base' : Nat} {v : Value} {zs : List Int} (h : OwnsI w base v zs) (hb : base' ≤ base) : OwnsI w base' v zs := by
 obtain ⟨h1, h2⟩ := h
 refine ⟨h1, h2.imp id ?_⟩
 rintro ⟨g, cap, cur, a, b, c⟩
 exact ⟨g, cap, cur, a, by omega, c⟩
theorem wpList_pushI {w0 : World} {ops : Array Oper} {rest : List Oper} {o : Oper} {a : Act} {Q : Exit → Act → World → Prop} (hgd : o.guard = none) (s x : Operand)
 (ho : o.op = .call { callee := .builtin .append, args := #[s, x], argTypes := #[46, 46] }) (base : Nat) (v : Value) (zs : List Int) (z : Int)
 (hs : a.eval s = v) (hx : a.eval x = .slice (some ⟨w0.heap.size, 0, none⟩) 1 1) (hown : OwnsI w0 base v zs) (hl : zs.length ≤ 1000000000) (hbase : base ≤ w0.heap.size)
 (h : ∀ v' w', OwnsI w' base v' (zs ++ [z]) → Below base w0 w' → wpList Tryz.prog ops Q rest (a.put o.dst v') w') :
 wpList Tryz.prog ops Q (o :: rest) a (w0.alloc (.cells #[.int .i64 z] 3)) := by
 obtain ⟨i0, hi, hz0, hz1, hz2⟩ := info_parts infoInt
 refine wpList_append_own _ hgd s x 46 ho base 3 i0 (.int .i64 0) 1 8 Tryz.underlying46 hi hz0 hz1 hz2 rfl (by decide) v zs.length (zs.map iv) hs (World.ownsRow.alloc hown _) ⟨w0.heap.size, 0, none⟩ 1 1 [iv z] hx rfl ?_ ?_ ?_ ?_ ?_ ?_
 · intro j u hj
   match j, hj with
   | 0, hj =>
    simp at hj
    subst hj
    simp [Addr.add, iv]
 · intro u hu
   simp at hu
   subst hu
   rfl
 · unfold maxLen; omega
 · omega
 · simp; omega
 · intro v' w' ho' hg _
   refine h v' w' (by unfold OwnsI; simpa using ho') ?_
   exact ((Below.refl base w0).alloc hbase _).grown hg (by simp; omega) (fun k hk => (World.ownsRow.lt hown k hk).1)
end Go.Proofs.YtpjlamnjiilgbaaGreat
