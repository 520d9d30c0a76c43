import Derived.Deep.RegionWith
import Derived.Test.YtgnomlcjikfdhaaGreatJ2Tr
import Derived.Test.YtgnomlcjikfdhaaGreatJ5Tr
import Derived.Test.YtgnomlcjikfdhaaGreatJ1Tr
import Derived.Test.YtgnomlcjikfdhaaGreatJ4Tr
namespace Go.Proofs.YtgnomlcjikfdhaaGreat
open Go.RowKit
set_option linter.unusedVariables false
def Dr (B g : Nat) (a : Option Addr) (len cap : Nat) (w : World) : Prop := CurAt B w g a len cap ∧ CodeIn B w a len
theorem Dr.lt {B g : Nat} {a : Option Addr} {len cap : Nat} {w : World} (h : Dr B g a len cap w) : g < w.heap.size := h.1.lt
theorem Dr.next {B g : Nat} {a : Option Addr} {len cap : Nat} {w w' : World} (h : Dr B g a len cap w) (hg : w.grownBy w' (some g)) (hc : CurAt B w' g a len cap) : Dr B g a len cap w' := ⟨hc, h.2.below (h.1.below hg)⟩
theorem Dr.alloc {B g : Nat} {a : Option Addr} {len cap : Nat} {w : World} (h : Dr B g a len cap w) (o : Obj) : Dr B g a len cap (w.alloc o) :=
 h.next (World.grownBy_alloc w o (some g)) (h.1.alloc o)
theorem Dr.over {B g base : Nat} {a : Option Addr} {len cap : Nat} {w w' : World} (h : Dr B g a len cap w) (hb : Below base w w') (hg : g < base) : Dr B g a len cap w' :=
 ⟨h.1.over hg hb, h.2.below (hb.mono (by have := h.1.1; omega))⟩
theorem grown_below {w w1 w' : World} {row : Option Nat} (h : w.grownBy w1 row) (hb : Below w.heap.size w1 w') : w.grownBy w' row :=
 ⟨hb.os.trans h.os, hb.tape.trans h.tape, hb.output.trans h.output, Nat.le_trans h.size hb.size, fun i hi hne => (hb.block i hi).trans (h.block i hi hne)⟩
theorem Dr.below {B g : Nat} {a : Option Addr} {len cap : Nat} {w w' : World} (h : Dr B g a len cap w) (hg : w.grownBy w' (some g)) : Below B w w' := h.1.below hg
theorem OwnsI.kept {w w' : World} {base : Nat} {v : Value} {bs : List Int} (h : OwnsI w base v bs) {g : Nat} (hg : w.grownBy w' (some g)) (hlt : g < base) : OwnsI w' base v bs :=
 World.ownsRow.kept h hg (by
  rcases hv : v.ownBlock with _ | k
  · exact .inl rfl
  · refine .inr (fun e => ?_)
    have := (World.ownsRow.lt h k hv).1
    cases e
    omega)
def NumIn (P : Int → Prop) (B g : Nat) (a : Option Addr) (len cap : Nat) (w : World) (e : Ending) (w' : World) : Prop :=
 ∃ x : Int, P x ∧ e = .returned (.int .i64 x) ∧ w.grownBy w' (some g) ∧ Dr B g a len cap w'
theorem below_in {B g : Nat} {a : Option Addr} {len cap : Nat} {w : World} (h : Dr B g a len cap w) (N : Int) (n : Nat) (hN : N = (n : Int)) (hn : 1 ≤ n) (hn2 : n ≤ 4294967296) :
 Calls Tryz.prog 59 #[.pointer (some ⟨g, 0, none⟩), .int .i64 N] w (NumIn (fun x => 0 ≤ x ∧ x ≤ N - 1) B g a len cap w) :=
 (l1Below_lit B w g a len cap h.1 h.2 N n hN hn hn2).mono fun e w' ⟨x, h1, h2, he, hg, hc⟩ => ⟨x, ⟨h1, h2⟩, he, hg, h.next hg hc⟩
def BoolIn (B g : Nat) (a : Option Addr) (len cap : Nat) (w : World) (e : Ending) (w' : World) : Prop :=
 ∃ b : Bool, e = .returned (.bool b) ∧ w.grownBy w' (some g) ∧ Dr B g a len cap w'
theorem once_in {B g : Nat} {a : Option Addr} {len cap : Nat} {w : World} (h : Dr B g a len cap w) (N : Int) (n : Nat) (hN : N = (n : Int)) (hn : 1 ≤ n) (hn2 : n ≤ 4294967296) :
 Calls Tryz.prog 58 #[.pointer (some ⟨g, 0, none⟩), .int .i64 N] w (BoolIn B g a len cap w) := by
 have hcall := below_in h N n hN hn hn2
 replace h := hidI h
 replace hN := hidI hN
 go_enter Tryz.func58, Tryz.ntmps58
 go_wp2_with fail
 refine hcall.mono ?_
 rintro e w' ⟨x, hx, rfl, hg, hd⟩
 have hr : BoolIn B g a len cap w (.returned (.bool (x == 0))) w' := ⟨_, rfl, hg, hd⟩
 replace hr := hidI hr
 clear hcall hx hg hd
 go_wp2
 go_ret
 exact hr.out
def PInts (P : Int → Prop) (w : World) (gl n : Nat) : Prop := ∀ j, j < n → ∃ v : Int, P v ∧ w.cell? ⟨gl, j, none⟩ = some (.int .i64 v)
theorem pints_lit (P : Int → Prop) (w : World) (zs : List Int) (C : Array Value) (hC : C = (zs.map (Value.int .i64)).toArray) (hz : ∀ z ∈ zs, P z) : PInts P (w.alloc (.cells C 3)) w.heap.size zs.length := by
 subst hC
 intro j hj
 refine ⟨zs[j], hz _ (List.getElem_mem hj), ?_⟩
 rw [World.cell?_alloc_new]
 simp [hj]
set_option maxHeartbeats 800000 in
theorem pick_in (P : Int → Prop) {B g : Nat} {a : Option Addr} {len cap : Nat} {w : World} (h : Dr B g a len cap w) (gl n : Nat) (hn : 1 ≤ n) (hn2 : n ≤ 256) (hgl : gl ≠ g) (hl : PInts P w gl n) :
 Calls Tryz.prog 116 #[.pointer (some ⟨g, 0, none⟩), .slice (some ⟨gl, 0, none⟩) n n] w (NumIn P B g a len cap w) := by
 have hcall := below_in h (n : Int) n rfl hn (by omega)
 replace h := hidI h
 replace hl := hidI hl
 go_enter Tryz.func116, Tryz.ntmps116
 go_wp2_with fail
 refine hcall.mono ?_
 rintro e w1 ⟨x, ⟨hx0, hx1⟩, rfl, hg, hd⟩
 obtain ⟨j, rfl⟩ := Int.eq_ofNat_of_zero_le hx0
 have hj : j < n := by omega
 obtain ⟨v, hv, hcell⟩ := hl.out j hj
 have hcell1 : w1.cell? ⟨gl, j, none⟩ = some (.int .i64 v) := hg.cell hcell (by simp; omega)
 have hr : NumIn P B g a len cap w (.returned (.int .i64 v)) w1 := ⟨v, hv, rfl, hg, hd⟩
 replace hr := hidI hr
 replace hcell := hidI hcell
 clear hd hg hv hcall
 go_wp2_with fail
 go_ret
 exact hr.out
def Lets (r : Int) (zs : List Int) : Prop := ∀ x ∈ zs, x ≠ 0 ∧ -r ≤ x ∧ x ≤ r
theorem Lets.nil (r : Int) : Lets r [] := by intro x h; cases h
set_option linter.unusedSimpArgs false
theorem ret_cells {fn : Func} {p u : Tmp} {ty ty2 : TypeId} {fs fs2 : Array Field} (h : fn.results = #[.cell p ty, .cell u ty2]) {tmps : Array Value} {w : World} {g g2 : Nat} {t t2 : TypeId} {cs cs2 : Array Value} {fr fr2 : Nat × Nat} {R : Ending → World → Prop}
 (hp : tmps.getD p undef = .pointer (some ⟨g, 0, none⟩)) (hx : tmps.getD u undef = .pointer (some ⟨g2, 0, none⟩)) (hg : w.heap[g]? = some (.cells cs t fr)) (hg2 : w.heap[g2]? = some (.cells cs2 t2 fr2))
 (hu : Tryz.prog.underlying ty = some (.struct fs)) (hi : (Tryz.prog.info? ty).map (·.size) = some cs.size) (hu2 : Tryz.prog.underlying ty2 = some (.struct fs2)) (hi2 : (Tryz.prog.info? ty2).map (·.size) = some cs2.size) (hr : R (.returned (.tuple #[.agg cs, .agg cs2])) w) :
 bodyPost Tryz.prog fn R .ret { tmps := tmps, defers := [] } w := by
 refine bodyPost_ret (v := .tuple #[.agg cs, .agg cs2]) ?_ rfl hr
 have hp' : tmps[p]?.getD undef = .pointer (some ⟨g, 0, none⟩) := by simpa using hp
 have hx' : tmps[u]?.getD undef = .pointer (some ⟨g2, 0, none⟩) := by simpa using hx
 simp [results, h, hp', hx', asAddr, run_loadVar_row w g t ty cs fr _ hg hu rfl hi, run_loadVar_row w g2 t2 ty2 cs2 fr2 _ hg2 hu2 rfl hi2]
theorem CodeIn.up {B B' : Nat} {w : World} {a : Option Addr} {len : Nat} (h : CodeIn B w a len) (hB : B ≤ B') : CodeIn B' w a len :=
 ⟨h.1, h.2.imp id (fun ⟨b, off, ha, hb, hc⟩ => ⟨b, off, ha, by omega, hc⟩)⟩
theorem new_at (w : World) (a : Option Addr) (len cap : Nat) (hcode : CodeIn w.heap.size w a len) :
 Calls Tryz.prog 46 #[.slice a len cap] w (fun e w' => ∃ g : Nat, e = .returned (.pointer (some ⟨g, 0, none⟩)) ∧ Below w.heap.size w w' ∧ Dr w.heap.size g a len cap w') :=
 (l1New_any w a len cap hcode).mono fun e w' ⟨g, he, hb, hc⟩ => ⟨g, he, hb, hc, hcode.below hb⟩
theorem below_of_grown {w w' : World} {B g : Nat} (h : w.grownBy w' (some g)) (hB : B ≤ g) (hw : B ≤ w.heap.size) : Below B w w' :=
 ⟨h.os, h.tape, h.output, h.size, fun k hk => h.block k (by omega) (fun e => by cases e; omega)⟩
def EdIn (m r : Int) (e : Ed) : Prop := (0 ≤ e.1 ∧ e.1 ≤ m) ∧ (1 ≤ e.2.1 ∧ e.2.1 ≤ r) ∧ (0 ≤ e.2.2 ∧ e.2.2 ≤ m)
def Ed2 (w : World) (e : Ending) (w' : World) : Prop :=
 ∃ f1 l1 t1 f2 l2 t2 : Int, EdIn 2 2 (f1, l1, t1) ∧ EdIn 2 2 (f2, l2, t2) ∧ e = .returned (.tuple #[.agg #[.int .i64 f1, .int .i64 l1, .int .i64 t1], .agg #[.int .i64 f2, .int .i64 l2, .int .i64 t2]]) ∧ Below w.heap.size w w'
set_option maxHeartbeats 3200000 in
theorem two_in (w : World) (a : Option Addr) (len cap : Nat) (hcode : CodeIn w.heap.size w a len) :
 Calls Tryz.prog 60 #[.slice a len cap] w (Ed2 w) := by
 obtain ⟨wa, hwa⟩ := exq (w.alloc (.cells #[.int .i64 0, .int .i64 0, .int .i64 0] 36))
 obtain ⟨wb, hwb⟩ := exq (wa.alloc (.cells #[.int .i64 0, .int .i64 0, .int .i64 0] 36))
 have hba : Below w.heap.size w wa := by rw [hwa]; exact (Below.refl _ _).alloc (Nat.le_refl _) _
 have hsa : wa.heap.size = w.heap.size + 1 := by rw [hwa]; simp
 have hsb : wb.heap.size = w.heap.size + 2 := by rw [hwb]; simp [hsa]
 have hbb : Below w.heap.size w wb := by rw [hwb]; exact hba.alloc (by omega) _
 have ha1 : wb.heap[w.heap.size]? = some (.cells #[.int .i64 0, .int .i64 0, .int .i64 0] 36 (0, 0)) := by
  rw [hwb, heap_alloc_old _ _ (by omega), hwa]; exact heap_alloc_new w _
 have ha2 : wb.heap[w.heap.size + 1]? = some (.cells #[.int .i64 0, .int .i64 0, .int .i64 0] 36 (0, 0)) := by
  rw [hwb, ← hsa]; exact heap_alloc_new wa _
 have hnew := new_at wb a len cap ((hcode.below hbb).up hbb.size)
 replace hcode := hidI hcode
 replace hsa := hidI hsa
 replace hsb := hidI hsb
 replace hwa := hidI hwa
 replace hwb := hidI hwb
 replace ha1 := hidI ha1
 replace ha2 := hidI ha2
 replace hba := hidI hba
 go_enter Tryz.func60, Tryz.ntmps60
 go_wp2_with fail
 simp only [hsa.out.symm]
 rw [← hwa.out, ← hwb.out]
 refine hnew.mono ?_
 rintro e w1 ⟨g, rfl, hb1, hd1⟩
 have k1 := hidI hb1
 clear hnew hb1
 have q0 := below_in hd1 3 3 rfl (by omega) (by omega)
 replace hd1 := hidI hd1
 go_wp2_with fail
 refine q0.mono ?_
 rintro e w2 ⟨f1, ⟨f1a, f1b⟩, rfl, hg2, hd2⟩
 have hg := hidI hg2
 clear q0 hd1 hg2
 have q0 := below_in hd2 2 2 rfl (by omega) (by omega)
 replace hd2 := hidI hd2
 go_wp2_with fail
 refine q0.mono ?_
 rintro e w3 ⟨l1, ⟨l1a, l1b⟩, rfl, hg3, hd3⟩
 replace hg := hidI (grown_trans hg.out hg3)
 clear q0 hd2 hg3
 have q0 := below_in hd3 3 3 rfl (by omega) (by omega)
 replace hd3 := hidI hd3
 go_wp2_with fail
 refine q0.mono ?_
 rintro e w4 ⟨t1, ⟨t1a, t1b⟩, rfl, hg4, hd4⟩
 replace hg := hidI (grown_trans hg.out hg4)
 clear q0 hd3 hg4
 have hlt4 := hd4.lt
 have e1b : 1 + l1 ≤ 2 := by omega
 obtain ⟨l1', hl1⟩ : ∃ z, z = 1 + l1 := ⟨_, rfl⟩
 have e1a : 1 ≤ l1' := by omega
 rw [← hl1] at e1b
 obtain ⟨w5, hw5⟩ := exq (w4.alloc (.cells #[.int .i64 f1, .int .i64 l1', .int .i64 t1] 36))
 have hk5 := heap_alloc_new w4 (.cells #[.int .i64 f1, .int .i64 l1', .int .i64 t1] 36)
 have hd5 := hd4.alloc (.cells #[.int .i64 f1, .int .i64 l1', .int .i64 t1] 36)
 rw [← hw5] at hk5 hd5
 have hg5 : w1.grownBy w5 (some g) := by rw [hw5]; exact grown_trans hg.out (World.grownBy_alloc w4 _ (some g))
 have q0 := below_in hd5 3 3 rfl (by omega) (by omega)
 replace hd4 := hidI hd4
 replace hd5 := hidI hd5
 replace hw5 := hidI hw5
 replace hg := hidI hg5
 replace hk5 := hidI hk5
 clear hg5
 go_wp2_with fail
 rw [← hl1, ← hw5.out]
 replace hl1 := hidI hl1
 refine q0.mono ?_
 rintro e w6 ⟨f2, ⟨f2a, f2b⟩, rfl, hg6, hd6⟩
 have k6 := hg6
 replace hg := hidI (grown_trans hg.out hg6)
 clear q0 hd5 hg6 hd4
 have q0 := below_in hd6 2 2 rfl (by omega) (by omega)
 replace hd6 := hidI hd6
 replace k6 := hidI k6
 go_wp2_with fail
 refine q0.mono ?_
 rintro e w7 ⟨l2, ⟨l2a, l2b⟩, rfl, hg7, hd7⟩
 replace k6 := hidI (grown_trans k6.out hg7)
 replace hg := hidI (grown_trans hg.out hg7)
 clear q0 hd6 hg7
 have q0 := below_in hd7 3 3 rfl (by omega) (by omega)
 replace hd7 := hidI hd7
 go_wp2_with fail
 refine q0.mono ?_
 rintro e w8 ⟨t2, ⟨t2a, t2b⟩, rfl, hg8, hd8⟩
 replace k6 := hidI (grown_trans k6.out hg8)
 replace hg := hidI (grown_trans hg.out hg8)
 have hlt8 := hd8.lt
 obtain ⟨l2', hl2⟩ : ∃ z, z = 1 + l2 := ⟨_, rfl⟩
 have e2a : 1 ≤ l2' := by omega
 have e2b : l2' ≤ 2 := by omega
 obtain ⟨w9, hw9⟩ := exq (w8.alloc (.cells #[.int .i64 f2, .int .i64 l2', .int .i64 t2] 36))
 have hk9 := heap_alloc_new w8 (.cells #[.int .i64 f2, .int .i64 l2', .int .i64 t2] 36)
 rw [← hw9] at hk9
 have hB9 : g < w8.heap.size := hlt8
 have hBg : wb.heap.size ≤ g := hd8.1.1
 have hs45 : w4.heap.size < w5.heap.size := by rw [hw5.out]; simp
 have hs58 : w5.heap.size ≤ w8.heap.size := k6.out.size
 have hk5' : w9.heap[w4.heap.size]? = some (.cells #[.int .i64 f1, .int .i64 l1', .int .i64 t1] 36 (0, 0)) := by
  rw [hw9, heap_alloc_old _ _ (by omega), k6.out.block w4.heap.size (by omega) (by simp; omega)]; exact hk5.out
 have hs18 : w1.heap.size ≤ w8.heap.size := hg.out.size
 have hs1 := k1.out.size
 have ha : ∀ j, j < wb.heap.size → w9.heap[j]? = wb.heap[j]? := fun j hj => by
  rw [hw9, heap_alloc_old _ _ (by omega), hg.out.block j (by omega) (by simp; omega), k1.out.block j hj]
 have ha1' := (ha w.heap.size (by have := hsb.out; omega)).trans ha1.out
 have ha2' := (ha (w.heap.size + 1) (by have := hsb.out; omega)).trans ha2.out
 have hb9 : Below w.heap.size w w9 := by
  have h1 : Below w.heap.size w w1 := hbb.trans (k1.out.mono hbb.size)
  have h2 : Below w.heap.size w w8 := h1.trans (below_of_grown hg.out (by have := hbb.size; omega) h1.size)
  rw [hw9]; exact h2.alloc h2.size _
 obtain ⟨x0, x1, x2⟩ := cell3 hk5'
 obtain ⟨y0, y1, y2⟩ := cell3 hk9
 obtain ⟨z0, z1, z2⟩ := cell3 ha1'
 obtain ⟨u0, u1, u2⟩ := cell3 ha2'
 have p1 := fun j => frozen_of_row w9 w.heap.size j _ _ ha1'
 have p2 := fun j => frozen_of_row w9 (w.heap.size + 1) j _ _ ha2'
 simp at x0 x1 x2 y0 y1 y2 z0 z1 z2 u0 u1 u2
 obtain ⟨A, hA⟩ := exq (w.heap.size + 1)
 rw [← hA] at u0 u1 u2 p2 ha2'
 have hAw : w.heap.size < A := by omega
 have hA4 : A < w4.heap.size := by have := hsb.out; omega
 have hA8 : A < w8.heap.size := by omega
 have hne : w.heap.size ≠ A := by omega
 have hset1 := fun v0 v1 v2 => set3 ha1' v0 v1 v2
 have hfin : ∀ w' : World, Below w.heap.size w w' → Ed2 w (.returned (.tuple #[.agg #[.int .i64 f1, .int .i64 l1', .int .i64 t1], .agg #[.int .i64 f2, .int .i64 l2', .int .i64 t2]])) w' := fun w' hw' =>
  ⟨f1, l1', t1, f2, l2', t2, ⟨⟨f1a, by simp only; omega⟩, ⟨e1a, e1b⟩, ⟨t1a, by simp only; omega⟩⟩, ⟨⟨f2a, by simp only; omega⟩, ⟨e2a, e2b⟩, ⟨t2a, by simp only; omega⟩⟩, rfl, hw'⟩
 have hs89 : w8.heap.size < w9.heap.size := by rw [hw9]; simp
 replace hfin := hidI hfin
 replace hset1 := hidI hset1
 replace hk9 := hidI hk9
 replace hk5' := hidI hk5'
 replace ha1' := hidI ha1'
 replace ha2' := hidI ha2'
 replace hb9 := hidI hb9
 replace hw9 := hidI hw9
 replace hl2 := hidI hl2
 replace hd8 := hidI hd8
 replace hAe := hidI (hA.trans hsa.out.symm)
 clear q0 ha hA hd7 hg8 hbb
 go_wp2_with fail
 rw [← hl2.out, ← hw9.out]
 simp only [← hAe.out]
 go_region
 obtain ⟨wx, hwx⟩ := exq ((((w9.setCell ⟨w.heap.size, 0, none⟩ (.int .i64 f1)).setCell ⟨w.heap.size, 1, none⟩ (.int .i64 l1')).setCell ⟨w.heap.size, 2, none⟩ (.int .i64 t1)))
 have hx1 := hset1.out (.int .i64 f1) (.int .i64 l1') (.int .i64 t1)
 rw [← hwx] at hx1
 have hx2 : wx.heap[A]? = some (.cells #[.int .i64 0, .int .i64 0, .int .i64 0] 36 (0, 0)) := by
  rw [hwx, Below.heap_setCell _ _ _ _ (Ne.symm hne), Below.heap_setCell _ _ _ _ (Ne.symm hne), Below.heap_setCell _ _ _ _ (Ne.symm hne)]; exact ha2'.out
 have hx3 := set3 hx2 (.int .i64 f2) (.int .i64 l2') (.int .i64 t2)
 have hx4 : (((wx.setCell ⟨A, 0, none⟩ (.int .i64 f2)).setCell ⟨A, 1, none⟩ (.int .i64 l2')).setCell ⟨A, 2, none⟩ (.int .i64 t2)).heap[w.heap.size]? = some (.cells #[.int .i64 f1, .int .i64 l1', .int .i64 t1] 36 (0, 0)) := by
  rw [Below.heap_setCell _ _ _ _ hne, Below.heap_setCell _ _ _ _ hne, Below.heap_setCell _ _ _ _ hne]; exact hx1
 have hbx : Below w.heap.size w (((wx.setCell ⟨A, 0, none⟩ (.int .i64 f2)).setCell ⟨A, 1, none⟩ (.int .i64 l2')).setCell ⟨A, 2, none⟩ (.int .i64 t2)) := by
  rw [hwx]
  exact (((((hb9.out.setCell (p := ⟨w.heap.size, 0, none⟩) (by simp) _).setCell (p := ⟨w.heap.size, 1, none⟩) (by simp) _).setCell (p := ⟨w.heap.size, 2, none⟩) (by simp) _).setCell (p := ⟨A, 0, none⟩) (by simp only; omega) _).setCell (p := ⟨A, 1, none⟩) (by simp only; omega) _).setCell (p := ⟨A, 2, none⟩) (by simp only; omega) _
 rw [← hwx]
 obtain ⟨wy, hwy⟩ := exq ((((wx.setCell ⟨A, 0, none⟩ (.int .i64 f2)).setCell ⟨A, 1, none⟩ (.int .i64 l2')).setCell ⟨A, 2, none⟩ (.int .i64 t2)))
 rw [← hwy] at hx3 hx4 hbx ⊢
 replace hwx := hidI hwx
 replace hwy := hidI hwy
 replace hx3 := hidI hx3
 replace hx4 := hidI hx4
 replace hbx := hidI hbx
 clear hx1 hx2
 go_wp2
 (try simp only [Exit.inBlock, Exit.then])
 refine ret_cells (cs := #[.int .i64 f1, .int .i64 l1', .int .i64 t1]) (cs2 := #[.int .i64 f2, .int .i64 l2', .int .i64 t2]) (g := w.heap.size) (g2 := A) rfl rfl rfl (by exact hx4.out) (by exact hx3.out) Tryz.underlying36 sizeEdge Tryz.underlying36 sizeEdge ?_
 exact hfin.out _ (below_dn hbx.out 1)
end Go.Proofs.YtgnomlcjikfdhaaGreat
