import Derived.Deep.RegionWith
import Derived.Test.YtgnomlcjikfdhaaGreatJ6Me
import Derived.Test.YtgnomlcjikfdhaaGreatJ3Me
import Derived.Test.YtgnomlcjikfdhaaGreatJ0Me
import Derived.Test.YtgnomlcjikfdhaaGreatJ2Me
namespace Go.Proofs.YtgnomlcjikfdhaaGreat
open Go.RowKit
set_option linter.unusedVariables false
def Dr (B g : Nat) (a : Option Addr) (len cap : Nat) (w : World) : Prop := fQ B w g a len cap ∧ eF B w a len
theorem Dr.lt {B g : Nat} {a : Option Addr} {len cap : Nat} {w : World} (h : Dr B g a len cap w) : g < w.heap.size := h.1.lt
theorem Dr.next {B g : Nat} {a : Option Addr} {len cap : Nat} {w w' : World} (h : Dr B g a len cap w) (hg : w.grownBy w' (some g)) (hc : fQ B w' g a len cap) : Dr B g a len cap w' := ⟨hc, h.2.below (h.1.below hg)⟩
theorem Dr.alloc {B g : Nat} {a : Option Addr} {len cap : Nat} {w : World} (h : Dr B g a len cap w) (o : Obj) : Dr B g a len cap (w.alloc o) :=
 h.next (World.grownBy_alloc w o (some g)) (h.1.alloc o)
theorem Dr.over {B g base : Nat} {a : Option Addr} {len cap : Nat} {w w' : World} (h : Dr B g a len cap w) (hb : Below base w w') (hg : g < base) : Dr B g a len cap w' :=
 ⟨h.1.over hg hb, h.2.below (hb.mono (by have := h.1.1; omega))⟩
theorem grown_below {w w1 w' : World} {row : Option Nat} (h : w.grownBy w1 row) (hb : Below w.heap.size w1 w') : w.grownBy w' row :=
 ⟨hb.os.trans h.os, hb.tape.trans h.tape, hb.output.trans h.output, Nat.le_trans h.size hb.size, fun i hi hne => (hb.block i hi).trans (h.block i hi hne)⟩
theorem Dr.below {B g : Nat} {a : Option Addr} {len cap : Nat} {w w' : World} (h : Dr B g a len cap w) (hg : w.grownBy w' (some g)) : Below B w w' := h.1.below hg
theorem ak.kept {w w' : World} {base : Nat} {v : Value} {bs : List Int} (h : ak w base v bs) {g : Nat} (hg : w.grownBy w' (some g)) (hlt : g < base) : ak w' base v bs :=
 World.ownsRow.kept h hg (by
  rcases hv : v.ownBlock with _ | k
  · exact .inl rfl
  · refine .inr (fun e => ?_)
    have := (World.ownsRow.lt h k hv).1
    cases e
    omega)
def NumIn (P : Int → Prop) (B g : Nat) (a : Option Addr) (len cap : Nat) (w : World) (e : Ending) (w' : World) : Prop :=
 ∃ x : Int, P x ∧ e = .returned (.int .i64 x) ∧ w.grownBy w' (some g) ∧ Dr B g a len cap w'
theorem dG {B g : Nat} {a : Option Addr} {len cap : Nat} {w : World} (h : Dr B g a len cap w) (N : Int) (n : Nat) (hN : N = (n : Int)) (hn : 1 ≤ n) (hn2 : n ≤ 4294967296) :
 Calls Tryz.prog 59 #[.pointer (some ⟨g, 0, none⟩), .int .i64 N] w (NumIn (fun x => 0 ≤ x ∧ x ≤ N - 1) B g a len cap w) :=
 (CX B w g a len cap h.1 h.2 N n hN hn hn2).mono fun e w' ⟨x, h1, h2, he, hg, hc⟩ => ⟨x, ⟨h1, h2⟩, he, hg, h.next hg hc⟩
def Gm (B g : Nat) (a : Option Addr) (len cap : Nat) (w : World) (e : Ending) (w' : World) : Prop :=
 ∃ b : Bool, e = .returned (.bool b) ∧ w.grownBy w' (some g) ∧ Dr B g a len cap w'
theorem uM {B g : Nat} {a : Option Addr} {len cap : Nat} {w : World} (h : Dr B g a len cap w) (N : Int) (n : Nat) (hN : N = (n : Int)) (hn : 1 ≤ n) (hn2 : n ≤ 4294967296) :
 Calls Tryz.prog 58 #[.pointer (some ⟨g, 0, none⟩), .int .i64 N] w (Gm B g a len cap w) := by
 have hcall := dG h N n hN hn hn2; replace h := ae h; replace hN := ae hN; go_enter Tryz.func58, Tryz.ntmps58
 go_wp2_with fail; refine hcall.mono ?_; rintro e w' ⟨x, hx, rfl, hg, hd⟩; have hr : Gm B g a len cap w (.returned (.bool (x == 0))) w' := ⟨_, rfl, hg, hd⟩; replace hr := ae hr; clear hcall hx hg hd; go_wp2; go_ret; exact hr.out
def JZ (P : Int → Prop) (w : World) (gl n : Nat) : Prop := ∀ j, j < n → ∃ v : Int, P v ∧ w.cell? ⟨gl, j, none⟩ = some (.int .i64 v)
theorem pI (P : Int → Prop) (w : World) (zs : List Int) (C : Array Value) (hC : C = (zs.map (Value.int .i64)).toArray) (hz : ∀ z ∈ zs, P z) : JZ P (w.alloc (.cells C 3)) w.heap.size zs.length := by
 subst hC; intro j hj; refine ⟨zs[j], hz _ (List.getElem_mem hj), ?_⟩; rw [World.cell?_alloc_new]; simp [hj]
set_option maxHeartbeats 800000 in
theorem uS (P : Int → Prop) {B g : Nat} {a : Option Addr} {len cap : Nat} {w : World} (h : Dr B g a len cap w) (gl n : Nat) (hn : 1 ≤ n) (hn2 : n ≤ 256) (hgl : gl ≠ g) (hl : JZ P w gl n) :
 Calls Tryz.prog 116 #[.pointer (some ⟨g, 0, none⟩), .slice (some ⟨gl, 0, none⟩) n n] w (NumIn P B g a len cap w) := by
 have hcall := dG h (n : Int) n rfl hn (by omega)
 replace h := ae h; replace hl := ae hl; go_enter Tryz.func116, Tryz.ntmps116
 go_wp2_with fail; refine hcall.mono ?_; rintro e w1 ⟨x, ⟨hx0, hx1⟩, rfl, hg, hd⟩; obtain ⟨j, rfl⟩ := Int.eq_ofNat_of_zero_le hx0; have hj : j < n := by omega
 obtain ⟨v, hv, hcell⟩ := hl.out j hj; have hcell1 : w1.cell? ⟨gl, j, none⟩ = some (.int .i64 v) := hg.cell hcell (by simp; omega)
 have hr : NumIn P B g a len cap w (.returned (.int .i64 v)) w1 := ⟨v, hv, rfl, hg, hd⟩; replace hr := ae hr; replace hcell := ae hcell; clear hd hg hv hcall; go_wp2_with fail; go_ret; exact hr.out
def lU (r : Int) (zs : List Int) : Prop := ∀ x ∈ zs, x ≠ 0 ∧ -r ≤ x ∧ x ≤ r
theorem lU.nil (r : Int) : lU r [] := by intro x h; cases h
theorem lU.snoc {r : Int} {zs : List Int} (h : lU r zs) {x : Int} (hx : x ≠ 0 ∧ -r ≤ x ∧ x ≤ r) : lU r (zs ++ [x]) := by
 intro y hy
 rcases List.mem_append.1 hy with h1 | h1
 · exact h y h1
 · rw [List.mem_singleton.1 h1]; exact hx
theorem lU.inR {r : Int} {zs : List Int} (h : lU r zs) (hr : r ≤ 1000) : bi zs := fun x hx => by have := h x hx; omega
theorem mem_push {s : List Int} {x y : Int} (h : y ∈ push s x) : y ∈ s ∨ y = x := by
 cases s with
 | nil => right; exact List.mem_singleton.1 h
 | cons z t =>
  cases hi : inv z x with
  | true => rw [iK hi] at h; exact .inl (List.mem_cons_of_mem _ h)
  | false =>
   rw [iW hi] at h
   rcases List.mem_cons.1 h with h | h
   · exact .inr h
   · exact .inl h
theorem Kr {zs : List Int} : ∀ {s : List Int} {y : Int}, y ∈ stk s zs → y ∈ s ∨ y ∈ zs := by
 induction zs with
 | nil => intro s y h; exact .inl h
 | cons x zs ih =>
  intro s y h
  rcases ih (s := push s x) h with h1 | h1
  · rcases mem_push h1 with h2 | h2
    · exact .inl h2
    · rw [h2]; exact .inr List.mem_cons_self
  · exact .inr (List.mem_cons_of_mem _ h1)
theorem lU.red {r : Int} {zs : List Int} (h : lU r zs) (hr : r ≤ 1000) : lU r (bK zs) := by
 rw [gW (h.inR hr)]; intro x hx
 rcases Kr (List.mem_reverse.1 hx) with h1 | h1
 · cases h1
 · exact h x h1
def uj (r : Int) (m : Nat) (zs : List Int) : Prop := lU r zs ∧ bK zs = zs ∧ zs.length ≤ m
theorem uj.red {r : Int} {m : Nat} {zs : List Int} (h : lU r zs) (hr : r ≤ 1000) (hl : zs.length ≤ m) : uj r m (bK zs) :=
 ⟨h.red hr, pF (h.inR hr), by have := jf zs; omega⟩
def IntsIn (P : List Int → Prop) (B g : Nat) (a : Option Addr) (len cap : Nat) (w : World) (e : Ending) (w' : World) : Prop :=
 ∃ v zs, P zs ∧ e = .returned v ∧ ak w' w.heap.size v zs ∧ w.grownBy w' (some g) ∧ Dr B g a len cap w'
set_option maxHeartbeats 1600000 in
theorem zZ {B g : Nat} {a : Option Addr} {len cap : Nat} {w : World} (h : Dr B g a len cap w) (r : Nat) (hr1 : 1 ≤ r) (hr3 : r ≤ 3) (M : Int) (m : Nat) (hM : M + 1 = ((m + 1 : Nat) : Int)) (hm : m ≤ 1000) :
 Calls Tryz.prog 104 #[.pointer (some ⟨g, 0, none⟩), .int .i64 r, .int .i64 M] w (IntsIn (uj r m) B g a len cap w) := by
 have hlt := h.lt; have hown0 := ae (ak.lit w); have hd0 := ae (h.alloc (.cells #[] 3)); have hMb : 0 ≤ M ∧ M ≤ 1000 := by omega
 obtain ⟨hM0, hM1⟩ := hMb; replace hM := ae hM; clear h; go_enter Tryz.func104, Tryz.ntmps104
 go_wp2_with fail; refine (dG hd0.out (M + 1) (m + 1) hM.out (by omega) (by omega)).mono ?_
 rintro e w1 ⟨n, ⟨hn0, hn1⟩, rfl, hg1, hd1⟩; have hown1 := ae (hown0.out.kept hg1 hlt); have hgw := ae (aj (World.grownBy_alloc w (.cells #[] 3) (some g)) hg1); have hs1 : w.heap.size ≤ w1.heap.size := hgw.out.size; have hnn : n = ((n.toNat : Nat) : Int) := by omega
 have hnm : n.toNat ≤ m := by have := hM.out; omega
 replace hd1 := ae hd1; replace hnn := ae hnn; clear hg1 hown0 hd0; go_wp2
 go_loopw [7, 8, 9] (fun v nn _ wr => ∃ (k : Nat) (acc : List Int), acc.length + k ≤ m ∧ nn = .int .i64 (k : Int) ∧ Hid (ak wr w.heap.size v acc) ∧ Hid (lU r acc) ∧ Hid (Dr B g a len cap wr) ∧ Hid (w.grownBy wr (some g)) ∧ w.heap.size ≤ wr.heap.size) (fun _ nn _ _ => (intOf nn).toNat)
 case atStart => exact ⟨n.toNat, [], by simpa using hnm, by rw [← hnn.out], hown1, ae (lU.nil _), hd1, hgw, hs1⟩
 case round =>
  clear hown1 hd1 hgw hs1 hnn hnm hn0 hn1; obtain ⟨k, acc, hk, rfl, hown, hlets, hd, hgw, hs⟩ := hrel; by_cases hk0 : 0 < k
  · go_wp2_with fail
    refine (dG hd.out (r : Int) r rfl (by omega) (by omega)).mono ?_
    rintro e w2 ⟨x, ⟨hx0, hx1⟩, rfl, hg2, hd2⟩; have hown2 := ae (hown.out.kept hg2 hlt); have hgw2 := ae (aj hgw.out hg2); replace hd2 := ae hd2; clear hg2 hown hd hgw; go_wp2_with fail; refine (uM hd2.out 2 2 rfl (by omega) (by omega)).mono ?_
    rintro e w3 ⟨b, rfl, hg3, hd3⟩; have hown3 := ae (hown2.out.kept hg3 hlt); have hgw3 := ae (aj hgw2.out hg3); have hs3 : w.heap.size ≤ w3.heap.size := hgw3.out.size; have hkm : acc.length ≤ 1000000000 := by omega
    replace hd3 := ae hd3; clear hg3 hown2 hd2 hgw2 hs
    cases b with
    | true =>
     have hl2 := ae (hlets.out.snoc (x := -(1 + x)) (by omega))
     go_wp2_with (at_builtin; go_must (refine bM rfl _ _ rfl w.heap.size _ acc (-(1 + x)) rfl rfl (by exact hown3.out) hkm hs3 ?_))
     intro v' w' hown' hb'; have hd' := ae (hd3.out.over hb' hlt); have hg' := ae (grown_below hgw3.out hb'); have hs' : w.heap.size ≤ w'.heap.size := hg'.out.size; replace hown' := ae hown'; clear hb' hown3 hd3 hgw3 hs3; go_wp2; go_roundw
     case rel => exact ⟨k - 1, acc ++ [-(1 + x)], by simp; omega, by go_num, hown', hl2, hd', hg', hs'⟩
     case measure => simp [intOf]; omega
    | false =>
     have hl2 := ae (hlets.out.snoc (x := 1 + x) (by omega))
     go_wp2_with (at_builtin; go_must (refine bM rfl _ _ rfl w.heap.size _ acc (1 + x) rfl rfl (by exact hown3.out) hkm hs3 ?_))
     intro v' w' hown' hb'; have hd' := ae (hd3.out.over hb' hlt); have hg' := ae (grown_below hgw3.out hb'); have hs' : w.heap.size ≤ w'.heap.size := hg'.out.size; replace hown' := ae hown'; clear hb' hown3 hd3 hgw3 hs3; go_wp2; go_roundw
     case rel => exact ⟨k - 1, acc ++ [1 + x], by simp; omega, by go_num, hown', hl2, hd', hg', hs'⟩
     case measure => simp [intOf]; omega
  · obtain rfl : k = 0 := by omega
    have hcall := vF wr _ acc ((hown.out.row (by omega)).read) (by omega)
    have hword := ae (uj.red hlets.out (by omega) (show acc.length ≤ m by omega))
    go_wp2_with fail; refine hcall.mono ?_; rintro e w4 ⟨v4, rfl, hown4, hb4⟩; have hr : IntsIn (uj r m) B g a len cap w (.returned v4) w4 := ⟨v4, _, hword.out, rfl, hown4.mono hs, grown_below hgw.out (hb4.mono hs), hd.out.over hb4 hd.out.lt⟩; replace hr := ae hr; clear hown4 hb4 hcall; go_wp2; go_ret; exact hr.out
set_option linter.unusedSimpArgs false
theorem eF.up {B B' : Nat} {w : World} {a : Option Addr} {len : Nat} (h : eF B w a len) (hB : B ≤ B') : eF B' w a len :=
 ⟨h.1, h.2.imp id (fun ⟨b, off, ha, hb, hc⟩ => ⟨b, off, ha, by omega, hc⟩)⟩
theorem uC (w : World) (a : Option Addr) (len cap : Nat) (hcode : eF w.heap.size w a len) :
 Calls Tryz.prog 46 #[.slice a len cap] w (fun e w' => ∃ g : Nat, e = .returned (.pointer (some ⟨g, 0, none⟩)) ∧ Below w.heap.size w w' ∧ Dr w.heap.size g a len cap w') :=
 (G9 w a len cap hcode).mono fun e w' ⟨g, he, hb, hc⟩ => ⟨g, he, hb, hc, hcode.below hb⟩
theorem below_of_grown {w w' : World} {B g : Nat} (h : w.grownBy w' (some g)) (hB : B ≤ g) (hw : B ≤ w.heap.size) : Below B w w' :=
 ⟨h.os, h.tape, h.output, h.size, fun k hk => h.block k (by omega) (fun e => by cases e; omega)⟩
end Go.Proofs.YtgnomlcjikfdhaaGreat
