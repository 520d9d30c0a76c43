import Derived.WalkKit
import Derived.WalkLawsBesides
import Derived.WalkSpells
import Derived.ProofKit
import Derived.Outline
import Derived.Deep.QuietTactic
import Derived.BigQuiet
import Derived.Deep.RegionLaw
import Derived.IntWalk
import Derived.Laws.MakeOwn
import Derived.OpenShut
import Derived.WalkSmall
import Derived.Laws.AppendOwnNone
import Derived.Test.YtgnomlcjikfdhaaGreatRows
namespace Go.Proofs.YtgnomlcjikfdhaaGreat
open Go.RowKit
set_option linter.unusedVariables false
def pO (k : IntKind) (w : World) (a : Option Addr) (len cap : Nat) (zs : List Int) : Prop :=
 (a = none ∧ len = 0 ∧ cap = 0 ∧ zs = []) ∨
 ∃ x, a = some x ∧ len ≤ cap ∧ cap ≤ maxLen ∧ zs.length = cap ∧ (∀ i, i < zs.length → w.cell? (x.add i) = some (.int k (zs.getD i 0))) ∧ ∀ n ∈ zs, (Lit.int k n).wf = true
theorem byte_of_wf {n : Int} (h : (Lit.int .u8 n).wf = true) : ∃ c : UInt8, n = (c.toNat : Int) := by
 simp [Lit.wf, IntKind.min, IntKind.max, IntKind.signed, IntKind.bits] at h
 refine ⟨UInt8.ofNat n.toNat, ?_⟩; simp
 omega
theorem ae {p : Prop} (h : p) : Hid p := h
def iv (z : Int) : Value := .int .i64 z
def bD (B : Nat) (w : World) (v : Value) (zs : List Int) : Prop :=
 zs.length ≤ 140737488355328 ∧ ∃ a cap, v = .slice a zs.length cap ∧ ((a = none → cap = 0) ∧ zs.length ≤ cap) ∧ (zs = [] ∨ ∃ b off, a = some ⟨b, off, none⟩ ∧ b < B ∧ ∀ i, i < zs.length → w.cell? ⟨b, off + i, none⟩ = some (.int .i64 (zs.getD i 0)))
def bg (w : World) (lo hi : Nat) (v : Value) (zs : List Int) : Prop :=
 zs.length ≤ 140737488355328 ∧ ((v = .slice none 0 0 ∧ zs = []) ∨
 ∃ g off cap cur, v = .slice (some ⟨g, off, none⟩) zs.length cap ∧ lo ≤ g ∧ g < hi ∧ zs.length ≤ cap ∧ w.heap[g]? = some (.cells cur 3 (0, 0)) ∧ ∀ i, i < zs.length → cur[off + i]? = some (.int .i64 (zs.getD i 0)))
theorem bD.below {B : Nat} {w w' : World} {v : Value} {zs : List Int} (h : bD B w v zs) (hb : Below B w w') : bD B w' v zs := by
 obtain ⟨hl, a, cap, hv, hnil, hc⟩ := h; refine ⟨hl, a, cap, hv, hnil, hc.imp id ?_⟩; rintro ⟨b, off, ha, hB, hcell⟩; exact ⟨b, off, ha, hB, fun i hi => by rw [hb.cell (p := ⟨b, off + i, none⟩) hB]; exact hcell i hi⟩
theorem bD.mono {B B' : Nat} {w : World} {v : Value} {zs : List Int} (h : bD B w v zs) (hB : B ≤ B') : bD B' w v zs := by
 obtain ⟨hl, a, cap, hv, hnil, hc⟩ := h; refine ⟨hl, a, cap, hv, hnil, hc.imp id ?_⟩; rintro ⟨b, off, ha, hb, hcell⟩; exact ⟨b, off, ha, by omega, hcell⟩
theorem bg.read {w : World} {lo hi : Nat} {v : Value} {zs : List Int} (h : bg w lo hi v zs) : bD hi w v zs := by
 obtain ⟨hl, ⟨rfl, rfl⟩ | ⟨g, off, cap, cur, rfl, hlo, hhi, hcap, hh, hc⟩⟩ := h
 · exact ⟨hl, none, 0, rfl, ⟨fun _ => rfl, Nat.le_refl _⟩, .inl rfl⟩
 · refine ⟨hl, _, _, rfl, ⟨(fun e => by cases e), hcap⟩, .inr ⟨g, off, rfl, hhi, fun i hi => ?_⟩⟩
   simp only [World.cell?, hh]; simpa using hc i hi
theorem bg.keep {w w' : World} {lo hi : Nat} {v : Value} {zs : List Int} (h : bg w lo hi v zs) (hb : ∀ k, lo ≤ k → k < hi → w'.heap[k]? = w.heap[k]?) : bg w' lo hi v zs := by
 obtain ⟨hl, h1 | ⟨g, off, cap, cur, hv, hlo, hhi, hcap, hh, hc⟩⟩ := h
 · exact ⟨hl, .inl h1⟩
 · exact ⟨hl, .inr ⟨g, off, cap, cur, hv, hlo, hhi, hcap, by rw [hb g hlo hhi]; exact hh, hc⟩⟩
theorem bg.below {w w' : World} {lo hi B : Nat} {v : Value} {zs : List Int} (h : bg w lo hi v zs) (hb : Below B w w') (hB : hi ≤ B) : bg w' lo hi v zs :=
 h.keep (fun k _ hk => hb.block k (by omega))
theorem bg.grown {w w' : World} {lo hi g : Nat} {v : Value} {zs : List Int} (h : bg w lo hi v zs) (hg : w.grownBy w' (some g)) (hh : hi ≤ w.heap.size) (hne : g < lo ∨ hi ≤ g) : bg w' lo hi v zs :=
 h.keep (fun k h1 h2 => hg.block k (by omega) (fun e => by cases e; omega))
theorem bg.wide {w : World} {lo hi lo' hi' : Nat} {v : Value} {zs : List Int} (h : bg w lo hi v zs) (h1 : lo' ≤ lo) (h2 : hi ≤ hi') : bg w lo' hi' v zs := by
 obtain ⟨hl, h3 | ⟨g, off, cap, cur, hv, hlo, hhi, hcap, hh, hc⟩⟩ := h
 · exact ⟨hl, .inl h3⟩
 · exact ⟨hl, .inr ⟨g, off, cap, cur, hv, by omega, by omega, hcap, hh, hc⟩⟩
theorem bg.of_owns {w : World} {base : Nat} {v : Value} {zs : List Int} (h : w.ownsRow base 3 1 v zs.length (zs.map iv)) (hl : zs.length ≤ 140737488355328) : bg w base w.heap.size v zs := by
 have hlt := h.lt; have hcs : ∀ g, v.ownBlock = some g → _ := fun g hg => h.cells (g := g) hg
 obtain ⟨hlen, ⟨rfl, hn⟩ | ⟨g, cap, cur, rfl, hg, hh, hcap, hmax, hsz, htk⟩⟩ := h
 · exact ⟨hl, .inl ⟨rfl, List.length_eq_zero_iff.1 hn⟩⟩
 · refine ⟨hl, .inr ⟨g, 0, cap, cur, rfl, hg, (hlt g rfl).2, hcap, hh, fun i hi => ?_⟩⟩
   have h1 : (zs.map iv)[i]? = some (iv (zs.getD i 0)) := by simp [hi]
   rw [← htk, List.getElem?_take] at h1; split at h1
   · rw [Nat.zero_add, ← Array.getElem?_toList]; exact h1
   · cases h1
theorem bD.at2 {B : Nat} {w : World} {a : Option Addr} {n cap : Nat} {zs : List Int} (h : bD B w (.slice a n cap) zs) (i : Nat) (hi : i < zs.length) :
 ∃ b off, a = some ⟨b, off, none⟩ ∧ b < B ∧ w.cell? ⟨b, off + i, none⟩ = some (.int .i64 (zs.getD i 0)) := by
 obtain ⟨_, a', cap', hv, _, hr⟩ := h; simp only [Value.slice.injEq] at hv; obtain ⟨rfl, _, rfl⟩ := hv
 rcases hr with h0 | ⟨b, off, ha, hB, hc⟩
 · rw [h0] at hi; simp at hi
 · exact ⟨b, off, ha, hB, hc i hi⟩
theorem jK : (Tryz.prog.info? 3).map (fun i => (i.zero, i.size, i.bytes)) = some (some (.int .i64 0), 1, 8) := by kernel_rfl
theorem yY (n : Nat) : (madeCells #[Value.int .i64 0] n).toList = (List.replicate n (0 : Int)).map iv := by
 rw [toList_madeCells_one]; simp [iv]
theorem au {a b : Bool} (h : a = b) : Ending.returned (.bool a) = .returned (.bool b) := by rw [h]
theorem fZ {a b : Int} (h : a = b) : Ending.returned (.int .i64 a) = .returned (.int .i64 b) := by rw [h]
def bW (w : World) (zs : List Int) (e : Ending) (w' : World) : Prop :=
 ∃ v, e = .returned v ∧ bg w' w.heap.size w'.heap.size v zs ∧ Below w.heap.size w w'
def Ef (w : World) (b : Bool) (e : Ending) (w' : World) : Prop := e = .returned (.bool b) ∧ ∃ n, w' = w.drewN n
structure Only (lo hi : Nat) (w w' : World) : Prop where
 os : w'.os = w.os
 tape : w'.tape = w.tape
 output : w'.output = w.output
 size : w'.heap.size = w.heap.size
 block : ∀ j, j < lo ∨ hi ≤ j → w'.heap[j]? = w.heap[j]?
theorem Only.refl (lo hi : Nat) (w : World) : Only lo hi w w := ⟨rfl, rfl, rfl, rfl, fun _ _ => rfl⟩
theorem Only.set {lo hi : Nat} {w w' : World} (h : Only lo hi w w') {g j : Nat} (h1 : lo ≤ g) (h2 : g < hi) (v : Value) : Only lo hi w (w'.setCell ⟨g, j, none⟩ v) :=
 ⟨h.os, h.tape, h.output, by rw [← h.size]; simp [World.setCell], fun k hk => by rw [Below.heap_setCell _ _ _ _ (show k ≠ g by omega)]; exact h.block k hk⟩
theorem Only.below {lo hi B : Nat} {w w' : World} (h : Only lo hi w w') (hB : B ≤ lo) : Below B w w' :=
 ⟨h.os, h.tape, h.output, by rw [h.size]; exact Nat.le_refl _, fun k hk => h.block k (.inl (by omega))⟩
theorem bg.only {w w' : World} {lo hi lo' hi' : Nat} {v : Value} {zs : List Int} (h : bg w lo hi v zs) (ho : Only lo' hi' w w') (hd : hi ≤ lo' ∨ hi' ≤ lo) : bg w' lo hi v zs :=
 h.keep (fun k h1 h2 => ho.block k (by omega))
theorem bD.only {B lo hi : Nat} {w w' : World} {v : Value} {zs : List Int} (h : bD B w v zs) (ho : Only lo hi w w') (hB : B ≤ lo) : bD B w' v zs := h.below (ho.below hB)
theorem bg.stored {w : World} {lo hi g off cap n : Nat} {ys : List Int} (h : bg w lo hi (.slice (some ⟨g, off, none⟩) n cap) ys) (hn : n = ys.length) (i : Nat) (z : Int) :
 bg (w.setCell ⟨g, off + i, none⟩ (.int .i64 z)) lo hi (.slice (some ⟨g, off, none⟩) n cap) (ys.set i z) := by
 obtain ⟨hl, h1 | ⟨g', off', cap', cur, hv, hlo, hhi, hcap, hh, hc⟩⟩ := h
 · simp at h1
 · simp only [Value.slice.injEq, Option.some.injEq, Addr.mk.injEq, and_true] at hv
   obtain ⟨⟨rfl, rfl⟩, _, rfl⟩ := hv; refine ⟨by simpa using hl, .inr ⟨g, off, cap, cur.setIfInBounds (off + i) (.int .i64 z), by simp [hn], hlo, hhi, by simpa using hcap, heap_setCell_same w g (off + i) cur _ _ hh, fun j hj => ?_⟩⟩
   rw [List.length_set] at hj; have hcj := hc j hj; rw [Array.getElem?_setIfInBounds]; by_cases e : i = j
   · subst e
     have : off + i < cur.size := (Array.getElem?_eq_some_iff.1 hcj).1; rw [if_pos rfl, if_pos this, List.getD_eq_getElem?_getD, List.getElem?_set_self (by omega)]
     rfl
   · rw [if_neg (by omega), hcj, List.getD_eq_getElem?_getD, List.getD_eq_getElem?_getD, List.getElem?_set_ne e]
theorem bg.form {w : World} {lo hi : Nat} {v : Value} {zs : List Int} (h : bg w lo hi v zs) (h0 : 0 < zs.length) : ∃ g off cap, v = .slice (some ⟨g, off, none⟩) zs.length cap ∧ lo ≤ g ∧ g < hi := by
 obtain ⟨hl, ⟨_, rfl⟩ | ⟨g, off, cap, cur, hv, hlo, hhi, hcap, hh, hc⟩⟩ := h
 · simp at h0
 · exact ⟨g, off, cap, hv, hlo, hhi⟩
def ng (x : Int) : Int := wrap64 (-x)
def invL (zs : List Int) : List Int := (zs.map ng).reverse
theorem GH (zs : List Int) (j : Nat) (h : j < zs.length) : invL (zs.drop j) = invL (zs.drop (j + 1)) ++ [ng (zs.getD j 0)] := by
 unfold invL; rw [List.drop_eq_getElem_cons h, List.map_cons, List.reverse_cons]; simp [List.getD_eq_getElem?_getD, h]
theorem qi (zs : List Int) : (invL zs).length = zs.length := by simp [invL]
def cancels (out : List Int) (x : Int) : Bool := decide (0 < out.length ∧ x ≠ 0 ∧ out.getD (out.length - 1) 0 = ng x ∧ out.getD (out.length - 1) 0 ≠ x)
def lY (out : List Int) (x : Int) : List Int := if cancels out x = true then out.take (out.length - 1) else out ++ [x]
def bK (zs : List Int) : List Int := zs.foldl lY []
theorem Gt (zs : List Int) (k : Nat) (h : k < zs.length) : bK (zs.take (k + 1)) = lY (bK (zs.take k)) (zs.getD k 0) := by
 unfold bK; rw [List.take_succ_eq_append_getElem h, List.foldl_append]; simp [List.getD_eq_getElem?_getD, h]
theorem Ae (out : List Int) (x : Int) : (lY out x).length ≤ out.length + 1 := by
 unfold lY; split
 · rw [List.length_take]; omega
 · simp
theorem jf (zs : List Int) : (bK zs).length ≤ zs.length := by
 suffices h : ∀ (l out : List Int), (l.foldl lY out).length ≤ out.length + l.length by
  have := h zs []; simpa [bK] using this
 intro l
 induction l with
 | nil => intro out; simp
 | cons x l ih =>
  intro out; have h1 := ih (lY out x); have h2 := Ae out x; simp only [List.foldl_cons, List.length_cons]; omega
theorem zD {out : List Int} {x : Int} (h : cancels out x = true) : lY out x = out.take (out.length - 1) := if_pos h
theorem oH {out : List Int} {x : Int} (h : cancels out x = false) : lY out x = out ++ [x] := by unfold lY; rw [h]; rfl
def ry (a b : List Int) : List Int := bK (a ++ b)
theorem vN (a b : List Int) : (ry a b).length ≤ a.length + b.length := by
 have := jf (a ++ b); rw [List.length_append] at this; exact this
def bi (zs : List Int) : Prop := ∀ x ∈ zs, -9223372036854775808 ≤ x ∧ x ≤ 9223372036854775807
theorem bi.nil : bi [] := by intro x h; cases h
theorem bi.append {a b : List Int} (ha : bi a) (hb : bi b) : bi (a ++ b) := by
 intro x hx
 rcases List.mem_append.1 hx with h | h
 · exact ha x h
 · exact hb x h
theorem bi.left {a b : List Int} (h : bi (a ++ b)) : bi a := fun x hx => h x (List.mem_append_left _ hx)
theorem bi.right {a b : List Int} (h : bi (a ++ b)) : bi b := fun x hx => h x (List.mem_append_right _ hx)
theorem bi.head {x : Int} {a : List Int} (h : bi (x :: a)) : -9223372036854775808 ≤ x ∧ x ≤ 9223372036854775807 := h x List.mem_cons_self
theorem bi.tail {x : Int} {a : List Int} (h : bi (x :: a)) : bi a := fun y hy => h y (List.mem_cons_of_mem _ hy)
theorem bi.cons {x : Int} {a : List Int} (hx : -9223372036854775808 ≤ x ∧ x ≤ 9223372036854775807) (h : bi a) : bi (x :: a) := by
 intro y hy
 rcases List.mem_cons.1 hy with rfl | h'
 · exact hx
 · exact h y h'
theorem bi.take {zs : List Int} (h : bi zs) (k : Nat) : bi (zs.take k) := fun x hx => h x (List.mem_of_mem_take hx)
theorem bi.reverse {a : List Int} (h : bi a) : bi a.reverse := fun x hx => h x (List.mem_reverse.1 hx)
theorem bi.getD {a : List Int} (h : bi a) (i : Nat) (hi : i < a.length) : -9223372036854775808 ≤ a.getD i 0 ∧ a.getD i 0 ≤ 9223372036854775807 := by
 apply h
 rw [List.getD_eq_getElem?_getD, List.getElem?_eq_getElem hi]; exact List.getElem_mem hi
theorem NJ (x : Int) : -9223372036854775808 ≤ ng x ∧ ng x ≤ 9223372036854775807 := by
 unfold ng wrap64; omega
theorem pJ {x : Int} (h : -9223372036854775808 < x) (h2 : x ≤ 9223372036854775807) : ng x = -x := by
 unfold ng wrap64; omega
theorem tJ : ng (-9223372036854775808) = -9223372036854775808 := by unfold ng wrap64; omega
theorem bi.invL {a : List Int} : bi (invL a) := by
 intro x hx; obtain ⟨y, _, rfl⟩ := List.mem_map.1 (List.mem_reverse.1 hx); exact NJ y
def inv (y x : Int) : Bool := decide (y + x = 0 ∧ x ≠ 0)
theorem pq (y x : Int) : inv y x = inv x y := by
 unfold inv; rw [decide_eq_decide]; omega
def push : List Int → Int → List Int
 | [], x => [x]
 | y :: t, x => if inv y x = true then t else x :: y :: t
theorem iK {y x : Int} {t : List Int} (h : inv y x = true) : push (y :: t) x = t := if_pos h
theorem iW {y x : Int} {t : List Int} (h : inv y x = false) : push (y :: t) x = x :: y :: t := by rw [push, h]; rfl
def stk (s zs : List Int) : List Int := zs.foldl push s
theorem lh (s : List Int) (x : Int) (zs : List Int) : stk s (x :: zs) = stk (push s x) zs := rfl
theorem iO (s a b : List Int) : stk s (a ++ b) = stk (stk s a) b := List.foldl_append ..
theorem mW (s a : List Int) (c : Int) : stk s (a ++ [c]) = push (stk s a) c := by rw [iO]; rfl
theorem push_in {s : List Int} {x : Int} (hs : bi s) (hx : -9223372036854775808 ≤ x ∧ x ≤ 9223372036854775807) : bi (push s x) := by
 cases s with
 | nil => exact bi.cons hx bi.nil
 | cons y t =>
  cases h : inv y x with
  | true => rw [iK h]; exact hs.tail
  | false => rw [iW h]; exact bi.cons hx hs
theorem uu {zs : List Int} : ∀ {s : List Int}, bi s → bi zs → bi (stk s zs) := by
 induction zs with
 | nil => intro s hs _; exact hs
 | cons x zs ih => intro s hs hz; exact ih (push_in hs hz.head) hz.tail
theorem Di (s : List Int) (x : Int) : (push s x).length ≤ s.length + 1 := by
 cases s with
 | nil => exact Nat.le_refl _
 | cons y t =>
  cases h : inv y x with
  | true => rw [iK h]; simp; omega
  | false => rw [iW h]; simp
theorem rH (zs : List Int) : ∀ s, (stk s zs).length ≤ s.length + zs.length := by
 induction zs with
 | nil => intro s; exact Nat.le_refl _
 | cons x zs ih =>
  intro s; have h1 := ih (push s x); have h2 := Di s x; rw [lh, List.length_cons]; omega
theorem Fh {s : List Int} {x : Int} (hs : bi s) (hx : -9223372036854775808 ≤ x ∧ x ≤ 9223372036854775807) : lY s.reverse x = (push s x).reverse := by
 cases s with
 | nil => rfl
 | cons y t =>
  have hy := hs.head; have hlast : (y :: t).reverse.getD ((y :: t).reverse.length - 1) 0 = y := by
   rw [List.getD_eq_getElem?_getD]; simp
  have hc : cancels (y :: t).reverse x = inv y x := by
   unfold cancels inv; rw [hlast, decide_eq_decide]; simp only [List.length_reverse, List.length_cons, ne_eq]; by_cases h1 : x = -9223372036854775808
   · subst h1
     rw [tJ]; omega
   · rw [pJ (by omega) hx.2]
     omega
  cases h : inv y x with
  | true =>
   rw [zD (by rw [hc]; exact h), iK h]
   simp
  | false =>
   rw [oH (by rw [hc]; exact h), iW h]
   simp
theorem G8 {zs : List Int} : ∀ {s : List Int}, bi s → bi zs → zs.foldl lY s.reverse = (stk s zs).reverse := by
 induction zs with
 | nil => intro s _ _; rfl
 | cons x zs ih =>
  intro s hs hz; rw [List.foldl_cons, Fh hs hz.head, lh]; exact ih (push_in hs hz.head) hz.tail
theorem gW {zs : List Int} (h : bi zs) : bK zs = (stk [] zs).reverse := G8 bi.nil h
theorem iQ {zs : List Int} (h : bi zs) : bi (bK zs) := by rw [gW h]; exact (uu bi.nil h).reverse
def iM (s : List Int) : Prop := ∀ p a b q, s = p ++ a :: b :: q → inv a b = false
theorem iM.nil : iM [] := by
 intro p a b q h; have := congrArg List.length h; simp at this
theorem iM.tail {x : Int} {s : List Int} (h : iM (x :: s)) : iM s := fun p a b q e => h (x :: p) a b q (by rw [e]; rfl)
theorem iM.cons {x : Int} {s : List Int} (h : iM s) (hx : ∀ y t, s = y :: t → inv x y = false) : iM (x :: s) := by
 intro p a b q e
 cases p with
 | nil =>
  simp only [List.nil_append, List.cons.injEq] at e; obtain ⟨rfl, e⟩ := e; exact hx b q e
 | cons z p =>
  simp only [List.cons_append, List.cons.injEq] at e; exact h p a b q e.2
theorem iM.reverse {s : List Int} (h : iM s) : iM s.reverse := by
 intro p a b q e; rw [pq]; refine h q.reverse b a p.reverse ?_; rw [← List.reverse_reverse s, e]; simp
theorem iM.push {s : List Int} (h : iM s) (x : Int) : iM (push s x) := by
 cases s with
 | nil => exact iM.cons iM.nil (fun y t e => by cases e)
 | cons y t =>
  cases hi : inv y x with
  | true => rw [iK hi]; exact h.tail
  | false =>
   rw [iW hi]; refine h.cons (fun y' t' e => ?_)
   cases e
   rw [pq]; exact hi
theorem iM.stk {zs : List Int} : ∀ {s : List Int}, iM s → iM (stk s zs) := by
 induction zs with
 | nil => intro s h; exact h
 | cons x zs ih => intro s h; exact ih (h.push x)
theorem AL {y x : Int} (h : inv y x = true) : y = -x ∧ x ≠ 0 := by
 unfold inv at h; rw [decide_eq_true_eq] at h; omega
theorem uA {s : List Int} (h : iM s) {a b : Int} (hab : inv a b = true) : push (push s a) b = s := by
 cases s with
 | nil => exact iK hab
 | cons y t =>
  cases hi : inv y a with
  | true =>
   rw [iK hi]; have h1 := AL hab; have h2 := AL hi; obtain rfl : y = b := by omega
   cases t with
   | nil => rfl
   | cons z t' =>
    have := h [] y z t' rfl; rw [iW (by rw [pq]; exact this)]
  | false =>
   rw [iW hi, iK hab]
theorem DI (zs : List Int) {s : List Int} (hs : iM s) : stk s (stk [] zs).reverse = stk s zs := by
 suffices h : ∀ (l : List Int), stk s (stk [] l.reverse).reverse = stk s l.reverse by
  have := h zs.reverse; rwa [List.reverse_reverse] at this
 intro l
 induction l with
 | nil => rfl
 | cons c l ih =>
  rw [List.reverse_cons, mW, mW, ← ih]
  cases hr : stk [] l.reverse with
  | nil => rfl
  | cons y t =>
   cases hi : inv y c with
   | true =>
    rw [iK hi, List.reverse_cons, mW, uA hs.stk hi]
   | false =>
    rw [iW hi, List.reverse_cons, mW]
theorem iG {a b : List Int} (ha : bi a) (hb : bi b) : bK (bK a ++ bK b) = bK (a ++ b) := by
 rw [gW ((iQ ha).append (iQ hb)), gW (ha.append hb), iO, iO, gW ha, gW hb, DI _ iM.nil, DI _ iM.nil.stk]
theorem pF {a : List Int} (ha : bi a) : bK (bK a) = bK a := by
 have := iG ha bi.nil; rw [List.append_nil] at this; have h0 : bK [] = [] := rfl; rwa [h0, List.append_nil] at this
theorem Hr {a b : List Int} (ha : bi a) (hb : bi b) : bK (bK a ++ b) = bK (a ++ b) := by
 rw [← iG (iQ ha) hb, pF ha, iG ha hb]
theorem EY {a b : List Int} (ha : bi a) (hb : bi b) : bK (a ++ bK b) = bK (a ++ b) := by
 rw [← iG ha (iQ hb), pF hb, iG ha hb]
theorem yJ {a b : List Int} (ha : bi a) (hb : bi b) : bi (ry a b) := iQ (ha.append hb)
theorem Gy {y x : Int} (hy : -9223372036854775808 ≤ y ∧ y ≤ 9223372036854775807) (hx : -9223372036854775808 ≤ x ∧ x ≤ 9223372036854775807) : inv (ng y) (ng x) = inv y x := by
 unfold inv; rw [decide_eq_decide]; by_cases h1 : x = -9223372036854775808
 · by_cases h2 : y = -9223372036854775808
   · subst h1; subst h2; rw [tJ]
   · subst h1; rw [tJ, pJ (by omega) hy.2]; omega
 · rw [pJ (by omega) hx.2]
   by_cases h2 : y = -9223372036854775808
   · subst h2; rw [tJ]; omega
   · rw [pJ (by omega) hy.2]; omega
theorem LC {l : List Int} (hl : bi l) : ∀ {s : List Int}, iM s → stk s (invL (stk [] l.reverse).reverse) = stk s (invL l.reverse) := by
 induction l with
 | nil => intro s _; rfl
 | cons c l ih =>
  intro s hs; have hin : bi (stk [] l.reverse) := uu bi.nil hl.tail.reverse; have e1 : ∀ m : List Int, ∀ x : Int, invL (m ++ [x]) = ng x :: invL m := by intro m x; simp [invL]
  have hc := ih hl.tail (hs.push (ng c)); rw [List.reverse_cons, mW, e1, lh, ← hc]
  cases hr : stk [] l.reverse with
  | nil => rfl
  | cons y t =>
   rw [hr] at hin
   cases hi : inv y c with
   | true =>
    rw [iK hi, List.reverse_cons, e1, lh, uA hs]; rw [pq, Gy hin.head hl.head]; exact hi
   | false =>
    rw [iW hi, List.reverse_cons, e1, lh]
theorem iM.map_ng {s : List Int} (h : iM s) (hin : bi s) : iM (s.map ng) := by
 intro p a b q e; obtain ⟨p', r', rfl, rfl, h2⟩ := List.map_eq_append_iff.1 e; obtain ⟨a', r'', rfl, rfl, h3⟩ := List.map_eq_cons_iff.1 h2; obtain ⟨b', q', rfl, rfl, rfl⟩ := List.map_eq_cons_iff.1 h3; rw [Gy (hin a' (by simp)) (hin b' (by simp))]
 exact h p' a' b' q' rfl
theorem EM {s : List Int} : ∀ {t : List Int}, iM (s.reverse ++ t) → stk t s = s.reverse ++ t := by
 induction s with
 | nil => intro t _; rfl
 | cons x s ih =>
  intro t h; rw [List.reverse_cons, List.append_assoc] at h ⊢; have hp : push t x = x :: t := by
   cases t with
   | nil => rfl
   | cons y t =>
    refine iW ?_; rw [pq]; exact h s.reverse x y t rfl
  rw [lh, hp]; exact ih h
theorem Ih {z : List Int} (hz : bi z) : invL (bK z) = bK (invL z) := by
 have hs : stk [] (invL (bK z)) = stk [] (invL z) := by
  have := LC hz.reverse iM.nil; rw [List.reverse_reverse] at this; rw [gW hz]; exact this
 rw [gW bi.invL, ← hs]; have hr : iM (stk [] z) := iM.nil.stk; have hi : bi (stk [] z) := uu bi.nil hz; have e : invL (stk [] z).reverse = (stk [] z).map ng := by simp [invL]
 have h1 := (hr.map_ng hi).reverse; have h2 : stk [] ((stk [] z).map ng) = ((stk [] z).map ng).reverse ++ [] := EM (by rw [List.append_nil]; exact h1)
 rw [gW hz, e, h2, List.append_nil, List.reverse_reverse]
theorem bf {B : Nat} {a w : World} (h : Below B a w) (n : Nat) : Below B a (w.drewN n) := ⟨h.os, h.tape, h.output, h.size, h.block⟩
theorem wf_i64 {n : Int} (h : (Lit.int .i64 n).wf = true) : -9223372036854775808 ≤ n ∧ n ≤ 9223372036854775807 := bounds_i64 h
theorem GK {w : World} {a : Option Addr} {len cap : Nat} {zs : List Int} (h : pO .i64 w a len cap zs) (hl : len ≤ 1048576) :
 bD w.heap.size w (.slice a len cap) (zs.take len) ∧ bi (zs.take len) ∧ (zs.take len).length = len := by
 rcases h with ⟨rfl, rfl, rfl, rfl⟩ | ⟨x, rfl, hlc, hcm, hz, hcell, hwf⟩
 · exact ⟨⟨by simp, none, 0, rfl, ⟨fun _ => rfl, Nat.le_refl _⟩, .inl rfl⟩, bi.nil, rfl⟩
 · have htl : (zs.take len).length = len := by rw [List.length_take]; omega
   refine ⟨⟨by omega, some x, cap, by rw [htl], ⟨(fun e => by cases e), by omega⟩, ?_⟩, fun y hy => wf_i64 (hwf y (List.mem_of_mem_take hy)), htl⟩
   rcases Nat.eq_zero_or_pos len with h0 | h0
   · left; subst h0; rfl
   · right
     have c0 := hcell 0 (by omega)
     obtain ⟨b, off, spot⟩ := x; have hspot : spot = none := by simpa [Addr.add] using World.cell?_spot c0
     subst hspot; refine ⟨b, off, rfl, ?_, fun i hi => ?_⟩
     · have c0' : w.cell? ⟨b, off, none⟩ = some (.int .i64 (zs.getD 0 0)) := by simpa [Addr.add] using c0
       rcases Nat.lt_or_ge b w.heap.size with h1 | h1
       · exact h1
       · unfold World.cell? at c0'
         rw [show w.heap[(⟨b, off, none⟩ : Addr).block]? = none from Array.getElem?_eq_none h1] at c0'
         cases c0'
     · have ci := hcell i (by omega)
       have hg : (zs.take len).getD i 0 = zs.getD i 0 := by
        rw [List.getD_eq_getElem?_getD, List.getD_eq_getElem?_getD, List.getElem?_take, if_pos (by omega)]
       rw [hg]; by_cases hi0 : i = 0
       · subst hi0; simpa [Addr.add] using ci
       · simpa [Addr.add, hi0] using ci
def sK (w : World) (zs : List Int) (b : Bool) (e : Ending) (w' : World) : Prop :=
 ∃ v, e = .returned (.tuple #[v, .bool b]) ∧ bg w' w.heap.size w'.heap.size v zs ∧ Below w.heap.size w w'
def kK (w : World) (n : Int) (e : Ending) (w' : World) : Prop := e = .returned (.int .i64 n) ∧ Below w.heap.size w w'
def dU (w : World) (b : Bool) (e : Ending) (w' : World) : Prop := e = .returned (.bool b) ∧ Below w.heap.size w w'
def ak (w : World) (base : Nat) (v : Value) (zs : List Int) : Prop := w.ownsRow base 3 1 v zs.length (zs.map iv)
theorem ak.lit (w : World) : ak (w.alloc (.cells #[] 3)) w.heap.size (.slice (some ⟨w.heap.size, 0, none⟩) 0 0) [] := World.ownsRow_lit w #[] 0 (Nat.le_refl _) (Nat.zero_le _) rfl
theorem ak.row {w : World} {base : Nat} {v : Value} {zs : List Int} (h : ak w base v zs) (hl : zs.length ≤ 140737488355328) : bg w base w.heap.size v zs := bg.of_owns h hl
theorem ak.drewN {w : World} {base : Nat} {v : Value} {zs : List Int} (h : ak w base v zs) (n : Nat) : ak (w.drewN n) base v zs := h
theorem ak.mono {w : World} {base base' : Nat} {v : Value} {zs : List Int} (h : ak w base v zs) (hb : base' ≤ base) : ak w base' v zs := by
 obtain ⟨h1, h2⟩ := h; refine ⟨h1, h2.imp id ?_⟩; rintro ⟨g, cap, cur, a, b, c⟩; exact ⟨g, cap, cur, a, by omega, c⟩
theorem bM {w0 : World} {ops : Array Oper} {rest : List Oper} {o : Oper} {a : Act} {Q : Exit → Act → World → Prop} (hgd : o.guard = none) (s x : Operand)
 (ho : o.op = .call { callee := .builtin .append, args := #[s, x], argTypes := #[33, 33] }) (base : Nat) (v : Value) (zs : List Int) (z : Int)
 (hs : a.eval s = v) (hx : a.eval x = .slice (some ⟨w0.heap.size, 0, none⟩) 1 1) (hown : ak w0 base v zs) (hl : zs.length ≤ 1000000000) (hbase : base ≤ w0.heap.size)
 (h : ∀ v' w', ak w' base v' (zs ++ [z]) → Below base w0 w' → wpList Tryz.prog ops Q rest (a.put o.dst v') w') :
 wpList Tryz.prog ops Q (o :: rest) a (w0.alloc (.cells #[.int .i64 z] 3)) := by
 obtain ⟨i0, hi, hz0, hz1, hz2⟩ := info_parts jK; refine wpList_append_own _ hgd s x 33 ho base 3 i0 (.int .i64 0) 1 8 Tryz.underlying33 hi hz0 hz1 hz2 rfl (by decide) v zs.length (zs.map iv) hs (World.ownsRow.alloc hown _) ⟨w0.heap.size, 0, none⟩ 1 1 [iv z] hx rfl ?_ ?_ ?_ ?_ ?_ ?_
 · intro j u hj
   match j, hj with
   | 0, hj =>
    simp at hj
    subst hj; simp [Addr.add, iv]
 · intro u hu
   simp at hu
   subst hu; rfl
 · unfold maxLen; omega
 · omega
 · simp; omega
 · intro v' w' ho' hg _
   refine h v' w' (by unfold ak; simpa using ho') ?_
   exact ((Below.refl base w0).alloc hbase _).grown hg (by simp; omega) (fun k hk => (World.ownsRow.lt hown k hk).1)
theorem jT {w0 : World} {ops : Array Oper} {rest : List Oper} {o : Oper} {a : Act} {Q : Exit → Act → World → Prop} (hgd : o.guard = none) (s x : Operand)
 (ho : o.op = .call { callee := .builtin .append, args := #[s, x], argTypes := #[33, 33] }) (base : Nat) (v vx : Value) (zs ys : List Int) (B : Nat)
 (hs : a.eval s = v) (hx : a.eval x = vx) (hown : ak w0 base v zs) (hread : bD B w0 vx ys) (hl : zs.length + ys.length ≤ 1000000000) (hbase : base ≤ w0.heap.size)
 (h : ∀ v' w', ak w' base v' (zs ++ ys) → Below base w0 w' → wpList Tryz.prog ops Q rest (a.put o.dst v') w') :
 wpList Tryz.prog ops Q (o :: rest) a w0 := by
 obtain ⟨i0, hi, hz0, hz1, hz2⟩ := info_parts jK; obtain ⟨_, ax, cap, rfl, ⟨hnil, _⟩, hr⟩ := hread
 rcases ax with _ | ad
 · have hy : ys = [] := by
    rcases hr with h0 | ⟨b, off, ha, _⟩
    · exact h0
    · cases ha
   subst hy; rw [hnil rfl] at hx; refine wpList_append_own_none hgd s x 33 ho base 3 i0 1 Tryz.underlying33 hi v zs.length (zs.map iv) hs hown hx ?_; exact h v w0 (by rw [List.append_nil]; exact hown) (Below.refl _ _)
 · refine wpList_append_own w0 hgd s x 33 ho base 3 i0 (.int .i64 0) 1 8 Tryz.underlying33 hi hz0 hz1 hz2 rfl (by decide) v zs.length (zs.map iv) hs hown ad ys.length cap (ys.map iv) hx (by simp) ?_ ?_ ?_ ?_ hbase ?_
   · intro j u hj
     rw [List.getElem?_map] at hj; obtain ⟨y, hy, rfl⟩ := Option.map_eq_some_iff.1 hj; have hjl : j < ys.length := (List.getElem?_eq_some_iff.1 hy).1
     rcases hr with h0 | ⟨b, off, ha, hB, hc⟩
     · rw [h0] at hjl; simp at hjl
     · cases ha
       have hcj := hc j hjl; rw [List.getD_eq_getElem?_getD, hy] at hcj; by_cases hj0 : j = 0
       · subst hj0; simpa [Addr.add, iv] using hcj
       · simpa [Addr.add, hj0, iv] using hcj
   · intro u hu
     obtain ⟨y, _, rfl⟩ := List.mem_map.1 hu; rfl
   · unfold maxLen; omega
   · omega
   · intro v' w' ho' hg _
     refine h v' w' (by unfold ak; simpa using ho') ?_
     exact (Below.refl base w0).grown hg hbase (fun k hk => (World.ownsRow.lt hown k hk).1)
end Go.Proofs.YtgnomlcjikfdhaaGreat
