/- Folds, the program: is a fold in a slice of folds (slices.Contains)? Folds replayed, the program: ReplayFolds (tools/js.py). -/
import Derived.Test.YtgngfffmkjckdaaGreatDoorHMS
import Derived.Test.YtgngfffmkjckdaaGreatDoorDlc
import Derived.Laws.StructEq
import Derived.Deep.LoopGhost
import Derived.Deep.Cut
import Derived.Test.YtgngfffmkjckdaaGreatDoorJX
import Derived.Test.YtgngfffmkjckdaaGreatDoorYJ
import Derived.Test.YtgngfffmkjckdaaGreatDoorQF
namespace Go.Proofs.YtgngfffmkjckdaaGreatDoor
open Go.RowKit Go.Shelf Go.Lib
set_option linter.unusedVariables false
set_option linter.unusedSimpArgs false

def encFd (x : tupF) : List Value := [.int .i64 x.1, .int .i64 x.2]
theorem eqFd : EqlAt Tryz.prog 37 (fun x => .agg (encFd x).toArray) (fun x y => x.1 == y.1 && x.2 == y.2) := by
  refine ⟨fun x y w => ?_, GuardAt.agg _ (by kernel_rfl)⟩
  have u3 := Tryz.underlying3
  have a3 := Tryz.isAgg3
  have z3 := Tryz.sizeOf3
  have hS : Tryz.prog.underlying 37 = some (.struct (Tryz.prog.fieldsOf 37)) := by kernel_rfl
  have hp : Tryz.prog.stoodInHeld 37 = false := by kernel_rfl
  simp only [encFd]
  rw [run_eql_struct, show (10000 : Nat) = 9999 + 1 from rfl, run_equalIn_agg w 9999 37 _ _ hS hp]
  simp only [Program.fieldsOf, Tryz.underlying37]
  go_simp
  by_cases h1 : x.fst = y.fst <;> by_cases h2 : x.snd = y.snd <;> simp [h1, h2]
theorem contains_any (w : World) (b off n c : Nat) (l : List tupF) (k d : Int) (h : ReadF w.heap.size w (.slice (some ⟨b, off, none⟩) n c) l) (hn : l.length = n) (hl : n ≤ 1000000000) :
    Calls Tryz.prog 38 #[.slice (some ⟨b, off, none⟩) n c, .agg #[.int .i64 k, .int .i64 d]] w fun e w' => e = .returned (.bool (decide ((k, d) ∈ l))) ∧ Below w.heap.size w w' := by
  have hc := AnyQ.slices_Contains Tryz.ctnF 2 Tryz.isAgg37 Tryz.sizeOf37 encFd (fun _ => rfl) _ eqFd b off n c l (k, d) w (by omega) (by omega) (fun j hj i v hv => by
    obtain ⟨b', off', e, _, c0, c1⟩ := ReadF.cells h j hj
    simp only [Option.some.injEq, Addr.mk.injEq, and_true] at e
    obtain ⟨rfl, rfl⟩ := e
    have hg : l[j]! = l.getD j zeroF := by rw [getElem!_pos l j hj, List.getD_eq_getElem?_getD, List.getElem?_eq_getElem hj]; rfl
    rw [hg] at hv
    unfold encFd at hv
    match i, hv with
    | 0, hv => simp at hv; subst hv; simpa using c0
    | 1, hv => simp at hv; subst hv; simpa using c1)
  change Calls Tryz.prog 38 _ _ _ at hc
  refine hc.mono ?_
  rintro e w' ⟨rfl, hb⟩
  refine ⟨?_, hb⟩
  congr 2
  rw [← hn, List.take_length, Bool.eq_iff_iff, List.any_eq_true, decide_eq_true_eq]
  constructor
  · rintro ⟨x, hx, hxe⟩
    simp only [Bool.and_eq_true, beq_iff_eq] at hxe
    have : (k, d) = x := Prod.ext hxe.1 hxe.2
    rw [this]; exact hx
  · intro hx
    exact ⟨(k, d), hx, by simp⟩
theorem index_nil (w : World) (a : Option Addr) (c : Nat) (k d : Int) :
    Calls Tryz.prog 64 #[.slice a 0 c, .agg #[.int .i64 k, .int .i64 d]] w fun e w' => e = .returned (.int .i64 (-1)) ∧ Below w.heap.size w w' := by
  have hb : Below w.heap.size w (w.alloc (.cells #[.int .i64 k, .int .i64 d] 37)) := (Below.refl _ _).alloc (Nat.le_refl _) _
  obtain ⟨w1, hw1⟩ : ∃ z, z = w.alloc (.cells #[.int .i64 k, .int .i64 d] 37) := ⟨_, rfl⟩
  rw [← hw1] at hb
  go_enter Tryz.func64, Tryz.ntmps64
  go_upto_region 1 with fail
  rw [← hw1]
  replace hw1 := hidI hw1
  go_wp2
  go_loopg [8] 0 (fun g i wr => i = .int .i64 0 ∧ g = 0 ∧ Hid (wr = w1))
  case atStart => exact ⟨rfl, rfl, hidI rfl⟩
  case round =>
    obtain ⟨rfl, hg, hwr⟩ := hrel
    have hwr' := hwr.out
    subst hwr'
    replace hg := hidI hg
    replace hwr := hidI hwr.out
    go_wp2
    go_ret
    exact ⟨rfl, hb⟩
theorem contains_nil (w : World) (a : Option Addr) (c : Nat) (k d : Int) :
    Calls Tryz.prog 38 #[.slice a 0 c, .agg #[.int .i64 k, .int .i64 d]] w fun e w' => e = .returned (.bool false) ∧ Below w.heap.size w w' := by
  obtain ⟨w1, hw1⟩ : ∃ z, z = w.alloc (.cells #[.int .i64 k, .int .i64 d] 37) := ⟨_, rfl⟩
  have hb : Below w.heap.size w w1 := by rw [hw1]; exact (Below.refl _ _).alloc (Nat.le_refl _) _
  have hk := heap_alloc_new w (.cells #[.int .i64 k, .int .i64 d] 37)
  rw [← hw1] at hk
  have c0 := cell_of_heap hk 0
  have c1 := cell_of_heap hk 1
  simp at c0 c1
  have hix := index_nil w1 a c k d
  have hs : w.heap.size ≤ w1.heap.size := hb.size
  replace hk := hidI hk
  go_enter Tryz.func38, Tryz.ntmps38
  go_upto_region 1 with fail
  rw [← hw1]
  replace hw1 := hidI hw1
  go_wp2_with fail
  refine hix.mono ?_
  rintro e w2 ⟨rfl, hb2⟩
  have hb02 := hb.trans (hb2.mono hs)
  clear c0 c1
  go_wp2
  go_ret
  exact ⟨rfl, hb02⟩
end Go.Proofs.YtgngfffmkjckdaaGreatDoor

namespace Go.Proofs.YtgngfffmkjckdaaGreatDoor
open Go.RowKit
set_option linter.unusedVariables false
set_option linter.unusedSimpArgs false

theorem re_not {r s : Int} {es : List Ed} (l : List tupF) (hg : isGr r s es = false) : reB r s es l = false ∧ reS r s es l = s ∧ reE r s es l = es := by
  unfold reB reS reE
  rw [hg]
  refine ⟨rfl, ?_⟩
  cases l with
  | nil => exact ⟨by simp [reSt], by simp [reSt]⟩
  | cons f l =>
    have : reAll r s es (f :: l) (f :: l).length = false := reAll_not (i := 0) (by simp) (by
      unfold reOk okM
      show (isGr r s es && _ && _) = false
      rw [hg]; rfl)
    rw [this]
    exact ⟨rfl, rfl⟩
theorem reE_length (r s : Int) (es : List Ed) (l : List tupF) : (reE r s es l).length ≤ es.length := by
  unfold reE
  split
  · exact reSt_len r s es l _
  · exact Nat.le_refl _
/-- The first i folds were possible: what is left is valid. -/
theorem re_gr {r s : Int} {es : List Ed} {l : List tupF} (hg : isGr r s es = true) : ∀ i, reAll r s es l i = true → isGr r (reSt r s es l i).1 (reSt r s es l i).2 = true := by
  intro i
  induction i with
  | zero => intro _; exact hg
  | succ i ih =>
    intro h
    rw [reAll, Bool.and_eq_true] at h
    have hgi := ih h.1
    have hok := h.2
    unfold reOk at hok
    rw [Bool.and_eq_true] at hok
    obtain ⟨_, h1, h2, h3⟩ := okM_iff.1 hok.1
    rw [reSt, fold_s hok.1, fold_e hok.1]
    exact merge_gr hgi h1 h2 h3
theorem re_mem {r s : Int} {es : List Ed} {l : List tupF} {i : Nat} (hg : isGr r (reSt r s es l i).1 (reSt r s es l i).2 = true) : reOk r s es l i = decide (l.getD i zeroF ∈ foldsF (reSt r s es l i).2) := by
  unfold reOk
  by_cases h : l.getD i zeroF ∈ foldsF (reSt r s es l i).2
  · rw [folds_ok hg h, decide_eq_true h]; rfl
  · rw [decide_eq_false h, Bool.and_false]
set_option maxRecDepth 100000 in
set_option maxHeartbeats 6400000 in
theorem progReplay (w : World) (r s : Int) (v vl : Value) (es : List Ed) (l : List tupF) (h : ReadE w.heap.size w v es) (hl : es.length ≤ 10000000) (hf : ReadF w.heap.size w vl l) (hfl : l.length ≤ 100000000) :
    Calls Tryz.prog 12 #[.agg #[.int .i64 r, .int .i64 s, v], vl] w (LwGraphBool w r (reS r s es l) (reE r s es l) (reB r s es l)) := by
  obtain ⟨a, cap, rfl, hnc⟩ := h.form
  obtain ⟨n, hn⟩ : ∃ n, n = es.length := ⟨_, rfl⟩
  rw [← hn] at h
  rw [← hn] at hl hnc ⊢
  obtain ⟨wa, hwa⟩ : ∃ z, z = w.alloc (.cells #[.int .i64 r, .int .i64 s, .slice a n cap] 26) := ⟨_, rfl⟩
  obtain ⟨w1, hw1⟩ : ∃ z, z = wa.alloc (.cells #[.int .i64 0, .int .i64 0, .slice none 0 0] 26) := ⟨_, rfl⟩
  have hww : (w.alloc (.cells #[.int .i64 r, .int .i64 s, .slice a n cap] 26)).alloc (.cells #[.int .i64 0, .int .i64 0, .slice none 0 0] 26) = w1 := by rw [hw1, hwa]
  have hb1 : Below w.heap.size w w1 := by rw [← hww]; exact ((Below.refl _ _).alloc (Nat.le_refl _) _).alloc (by simp) _
  have hs1 : w1.heap.size = w.heap.size + 1 + 1 := by rw [← hww]; simp
  have hg := heap_box w (.cells #[.int .i64 r, .int .i64 s, .slice a n cap] 26) (.cells #[.int .i64 0, .int .i64 0, .slice none 0 0] 26)
  have hR := heap_alloc_new (w.alloc (.cells #[.int .i64 r, .int .i64 s, .slice a n cap] 26)) (.cells #[.int .i64 0, .int .i64 0, .slice none 0 0] 26)
  rw [hww] at hg hR
  rw [show (w.alloc (.cells #[.int .i64 r, .int .i64 s, .slice a n cap] 26)).heap.size = w.heap.size + 1 by simp] at hR
  have g0 : w1.cell? ⟨w.heap.size, 0, none⟩ = some (.int .i64 r) := by simpa using cell_of_heap hg 0
  have g1 : w1.cell? ⟨w.heap.size, 1, none⟩ = some (.int .i64 s) := by simpa using cell_of_heap hg 1
  have g2 : w1.cell? ⟨w.heap.size, 2, none⟩ = some (.slice a n cap) := by simpa using cell_of_heap hg 2
  have his := progIsGr w1 r s (.slice a n cap) es ((h.below hb1).mono hb1.size) (by omega)
  obtain ⟨B, hB⟩ : ∃ B, B = isGr r s es := ⟨_, rfl⟩
  rw [← hB] at his
  obtain ⟨ZS, hZS⟩ : ∃ B, B = reS r s es l := ⟨_, rfl⟩
  obtain ⟨ZE, hZE⟩ : ∃ B, B = reE r s es l := ⟨_, rfl⟩
  obtain ⟨ZB, hZB⟩ : ∃ B, B = reB r s es l := ⟨_, rfl⟩
  rw [← hZS, ← hZE, ← hZB]
  have hno : B = false → ZB = false ∧ ZS = s ∧ ZE = es := fun hf => by rw [hZS, hZE, hZB]; exact re_not l (hB.symm.trans hf)
  have hnall : reAll r s es l l.length = false → ZB = false ∧ ZS = s ∧ ZE = es := fun hf => by rw [hZS, hZE, hZB]; unfold reB reS reE; rw [hf]; exact ⟨by simp, by simp, by simp⟩
  have hall : B = true → reAll r s es l l.length = true → ZB = true ∧ ZS = (reSt r s es l l.length).1 ∧ ZE = (reSt r s es l l.length).2 := fun h1 h2 => by rw [hZS, hZE, hZB]; unfold reB reS reE; rw [h2, ← hB, h1]; exact ⟨by simp, by simp, by simp⟩
  have hRk : ∀ W, Below w1.heap.size w1 W → W.heap[w.heap.size + 1]? = some (.cells #[.int .i64 0, .int .i64 0, .slice none 0 0] 26 (0, 0)) := fun W hW => by rw [hW.block _ (by omega)]; exact hR
  have hend : ∀ (W : World) (x0 x1 x2 : Value), Below w.heap.size w W → Below w.heap.size w (((W.setCell ⟨w.heap.size + 1, 0, none⟩ x0).setCell ⟨w.heap.size + 1, 1, none⟩ x1).setCell ⟨w.heap.size + 1, 2, none⟩ x2) := fun W x0 x1 x2 hW => below_set3 hW (by omega)
  have hcopy := fun (W : World) (hr : ReadE W.heap.size W (.slice a es.length cap) es) => gpCopy W r s _ es hr (by omega)
  rw [← hn] at hcopy
  obtain ⟨al, cl, rfl, _⟩ := hf.form
  obtain ⟨nl, hnl⟩ : ∃ z, z = l.length := ⟨_, rfl⟩
  have hf0 := hidI hf
  rw [← hnl] at hfl ⊢
  rw [← hnl] at hf0
  rw [← hnl] at hnall hall
  clear hf
  replace hcopy := hidI hcopy
  replace hno := hidI hno
  replace hnall := hidI hnall
  replace hall := hidI hall
  replace hRk := hidI hRk
  replace hend := hidI hend
  replace hww := hidI hww
  replace hn := hidI hn
  replace h := hidI h
  replace hg := hidI hg
  replace hR := hidI hR
  replace hs1 := hidI hs1
  replace hZS := hidI hZS
  replace hZE := hidI hZE
  replace hZB := hidI hZB
  replace hwa := hidI hwa
  replace hw1 := hidI hw1
  replace hnl := hidI hnl
  go_enter Tryz.func12, Tryz.ntmps12
  go_upto_region 1 with fail
  rw [hww.out]
  go_wp2_with fail
  refine his.mono ?_
  rintro e w2 ⟨rfl, hb2⟩
  clear his
  have hlt1 : w.heap.size + 1 < w1.heap.size := by have := hs1.out; omega
  replace g0 := below_cell g0 hb2 (by omega)
  replace g1 := below_cell g1 hb2 (by omega)
  replace g2 := below_cell g2 hb2 (by omega)
  have hb12 := hidI (hb1.trans (hb2.mono hb1.size))
  have hb12' := hidI hb2
  have hb2l : w1.heap.size ≤ w2.heap.size := hb2.size
  have hbw2 : w.heap.size ≤ w2.heap.size := hb12.out.size
  replace hB := hidI hB
  clear hb2
  cases B with
  | false =>
    have hbx0 := hb12.out
    have hbx1 := hb12'.out
    have h0_ := hno.out rfl
    replace hB := hidI hB.out
    obtain ⟨hZB0, hZS0, hZE0⟩ := h0_
    have hcc := hcopy.out w2 ((h.out.below hbx0).mono (hbx0).size)
    have hsW : w1.heap.size ≤ w2.heap.size := (hbx1).size
    have hbWx := hbx0
    have hbWy := hbx1
    replace hZS0 := hidI hZS0
    replace hZE0 := hidI hZE0
    replace hZB0 := hidI hZB0
    replace hbWx := hidI hbWx
    replace hbWy := hidI hbWy
    go_wp2_with fail
    refine hcc.mono ?_
    rintro e w5 ⟨ca, cc, rfl, hrow, hb5⟩
    rw [← hn.out]
    rw [← hn.out] at hrow
    clear hcc
    have hb15 : Below w.heap.size w w5 := hbWx.out.trans (hb5.mono hbWx.out.size)
    have hR5 := hRk.out w5 (hbWy.out.trans (hb5.mono hsW))
    have hs25 := hb5.size
    have y0 := cell_of_heap hR5 0
    have y1 := cell_of_heap hR5 1
    have y2 := cell_of_heap hR5 2
    have f2 := fun j => frozen_of_row w5 (w.heap.size + 1) j _ _ hR5
    simp at y0 y1 y2
    have hfin : LwGraphBool w r s es false (.returned (.tuple #[.agg #[.int .i64 r, .int .i64 s, .slice ca n cc], .bool false])) (((w5.setCell ⟨w.heap.size + 1, 0, none⟩ (.int .i64 r)).setCell ⟨w.heap.size + 1, 1, none⟩ (.int .i64 s)).setCell ⟨w.heap.size + 1, 2, none⟩ (.slice ca n cc)) := by
      have hrw := hrow
      rw [hn.out] at hrw
      rw [hn.out]
      exact ⟨ca, cc, rfl, (RowS.set3_ hrw (.inl (by omega))).wide (by omega) (by rw [size_set3]; exact Nat.le_refl _), hend.out _ _ _ _ hb15⟩
    have hset := set3 hR5 (.int .i64 r) (.int .i64 s) (.slice ca n cc)
    replace hfin := hidI hfin
    replace hset := hidI hset
    replace hR5 := hidI hR5
    replace hrow := hidI hrow
    replace hb5 := hidI hb5
    replace hb15 := hidI hb15
    go_wp2
    (try simp only [Exit.inBlock, Exit.then])
    refine ret_cell2 (x := .bool false) rfl rfl rfl hset.out Tryz.underlying26 sizeGraph ?_
    rw [hZS0.out, hZE0.out, hZB0.out]
    exact hfin.out
  | true =>
  have hgr := hidI hB.out.symm
  replace hB := hidI hB.out
  have hlim := isGr_iff.1 hgr.out
  have hsl : 1 ≤ s ∧ s ≤ 40 ∧ es.length ≤ 120 := ⟨hlim.2.2.2.1, hlim.2.2.2.2.1, hlim.2.2.2.2.2⟩
  have hrd2 : ReadE w2.heap.size w2 (.slice a n cap) es := (h.out.below hb12.out).mono hb12.out.size
  have hmk := merging_any w2 r s (.slice a n cap) es hrd2 ⟨hsl.1, hsl.2.1⟩ (by omega)
  have hid : resE (fun i : Nat => (i : Int)) es = es := resE_id (asc_of_gr hgr.out) (fun e he => ⟨(gr_edge hgr.out he).1.1, (gr_edge hgr.out he).2.1.1⟩)
  replace hlim := hidI hlim
  replace hrd2 := hidI hrd2
  replace hid := hidI hid
  go_wp2_with fail
  refine hmk.mono ?_
  rintro e w3 ⟨D, rfl, hok, hDS, hst3, hb3⟩
  clear hmk
  have hs23 := hb3.size
  have hst0 : Hid (∃ nm K, MgSt w3 D r s (.slice a n cap) nm K ∧ resE nm es = (reSt r s es l 0).2 ∧ (K : Int) = (reSt r s es l 0).1) := hidI ⟨_, _, hst3, hid.out, hDS⟩
  have hall0 : Hid (reAll r s es l 0 = true) := hidI rfl
  have hbb0 : Hid (Below w2.heap.size w2 w3) := hidI hb3
  have hsz0 : Hid (w3.heap.size ≤ w3.heap.size) := hidI (Nat.le_refl _)
  have gk0 := below_cell g0 hb3 (by omega)
  have gk1 := below_cell g1 hb3 (by omega)
  have gk2 := below_cell g2 hb3 (by omega)
  replace g0 := hidI g0
  replace g1 := hidI g1
  replace g2 := hidI g2
  replace hok := hidI hok
  replace hDS := hidI hDS
  replace hst3 := hidI hst3
  clear hb3 gk0 gk1 gk2
  go_wp2
  go_loopg [18] nl (fun g ii wr => ∃ i : Nat, i + g = nl ∧ ii = .int .i64 (i : Int) ∧ Hid (reAll r s es l i = true) ∧ Hid (∃ nm K, MgSt wr D r s (.slice a n cap) nm K ∧ resE nm es = (reSt r s es l i).2 ∧ (K : Int) = (reSt r s es l i).1) ∧ Hid (Below w2.heap.size w2 wr) ∧ Hid (w3.heap.size ≤ wr.heap.size))
  case atStart => exact ⟨0, by omega, by simp, hall0, hst0, hbb0, hsz0⟩
  case round =>
    clear hst0 hall0 hbb0 hsz0
    obtain ⟨i, hi, rfl, hra, hst, hbb, hsz⟩ := hrel
    obtain ⟨nm, K, hstr, hres, hKs⟩ := hst.out
    have hgi := re_gr hgr.out i hra.out
    have hmem := re_mem hgi
    obtain ⟨E, hE⟩ : ∃ E, E = (reSt r s es l i).2 := ⟨_, rfl⟩
    rw [← hE, ← hKs] at hgi
    rw [← hE] at hres hmem
    have hszr := hsz.out
    have hEl : E.length ≤ 120 := (isGr_iff.1 hgi).2.2.2.2.2
    have hK40 : K ≤ 40 := by have := (isGr_iff.1 hgi).2.2.2.2.1; omega
    have hb0r : Below w.heap.size w wr := hb12.out.trans (hbb.out.mono hbw2)
    have hb1r : Below w1.heap.size w1 wr := hb12'.out.trans (hbb.out.mono hb2l)
    by_cases hlt : i < nl
    · have hii : (i : Int) < (nl : Int) := by omega
      obtain ⟨b, off, hab, hBb, c0, c1⟩ := ReadF.cells ((hf0.out.below hb0r).mono (by have := hb0r.size; omega)) i (by have := hnl.out; omega)
      subst hab
      obtain ⟨⟨k, d⟩, hkd⟩ : ∃ f, f = l.getD i zeroF := ⟨_, rfl⟩
      rw [← hkd] at c0 c1 hmem
      simp only at c0 c1
      obtain ⟨w4, hw4⟩ : ∃ z, z = wr.alloc (.cells #[.int .i64 k, .int .i64 d] 37) := ⟨_, rfl⟩
      have hb4 : Below wr.heap.size wr w4 := by rw [hw4]; exact (Below.refl _ _).alloc (Nat.le_refl _) _
      have hs4 : w4.heap.size = wr.heap.size + 1 := by rw [hw4]; simp
      have hk4 : w4.heap[wr.heap.size]? = some (.cells #[.int .i64 k, .int .i64 d] 37 (0, 0)) := by rw [hw4]; exact heap_alloc_new _ _
      obtain ⟨Y, hY⟩ : ∃ Y, Y = wr.heap.size := ⟨_, rfl⟩
      rw [← hY] at hk4
      obtain ⟨u, hu⟩ : ∃ z, z = w4.drew := ⟨_, rfl⟩
      have hbu : Below wr.heap.size wr u := by rw [hu]; exact below_dn hb4 1
      have hku : u.heap[Y]? = _ := (show u.heap[Y]? = w4.heap[Y]? by rw [hu]; rfl).trans hk4
      have hsu : u.heap.size = Y + 1 := by rw [hu, hY]; exact hs4
      have y0 : u.cell? ⟨Y, 0, none⟩ = some (.int .i64 k) := by simpa using cell_of_heap hku 0
      have y1 : u.cell? ⟨Y, 1, none⟩ = some (.int .i64 d) := by simpa using cell_of_heap hku 1
      have hstu := hstr.below (hok.out.mono hszr) hbu
      have hbbu : Below w2.heap.size w2 u := hbb.out.trans (hbu.mono (by omega))
      have hsu3 : w3.heap.size ≤ u.heap.size := by omega
      have hYu : Y < u.heap.size := by omega
      have hY3 : w3.heap.size ≤ Y := by omega
      have hrs := result_any u D w2.heap.size r s (.slice a n cap) es nm K hstu (hok.out.mono hsu3) (hrd2.out.below hbbu) (by omega) hDS.out hgr.out
      rw [hres] at hrs
      have hDM : Y ≠ D.Mb ∧ Y ≠ D.gl ∧ ∀ x, x < D.S → Y ≠ D.P x := by
        have ho := hok.out
        exact ⟨by have := ho.mb.2; omega, by have := ho.gl.2.1; omega, fun x hx => by have := (ho.p x hx).2.1; omega⟩
      have hYe := hidI hY
      clear hY
      replace hmem := hidI hmem
      replace hgi := hidI hgi
      replace hres := hidI hres
      replace hKs := hidI hKs
      replace hE := hidI hE
      replace hstr := hidI hstr
      replace hkd := hidI hkd
      replace hi := hidI hi
      replace hb0r := hidI hb0r
      replace hb1r := hidI hb1r
      replace hb4 := hidI hb4
      replace hs4 := hidI hs4
      replace hk4 := hidI hk4
      replace hu := hidI hu
      replace hbu := hidI hbu
      replace hku := hidI hku
      replace hsu := hidI hsu
      replace hstu := hidI hstu
      replace hbbu := hidI hbbu
      replace hDM := hidI hDM
      clear hst
      go_upto_region 7 with fail
      rw [← hw4]
      replace hw4 := hidI hw4
      rw [← hYe.out]
      clear c0 c1
      refine hideQ (fun _ _ d _ _ h => by cases d <;> exact h) (fun Q' hnorm hpan => ?_)
      refine wp_region_held_drew (S := fun z => z.cell? ⟨Y, 0, none⟩ = some (.int .i64 k) ∧ z.cell? ⟨Y, 1, none⟩ = some (.int .i64 d)) (by kernel_rfl) ?_ (fun hHeld => ?_)
      · try dsimp only
        rw [← hu.out]
        ((repeat' apply And.intro) <;> assumption)
      rw [← hu.out] at hHeld ⊢
      refine tk 0 22 ?_
      refine tk 3 25 ?_
      refine wpAnyH_ready (rs := [1]) (by kernel_rfl) (by simp) ?_
      refine AllReadyH.cons rfl (fun Kz hK => ?_) AllReadyH.nil
      rw [if_pos (by rfl)]
      go_simp
      go_at_call 40
      (with_reducible refine hrs.mono ?_)
      rintro e w5 ⟨ra, rc, rfl, hrow5, hst5, hoff5⟩
      have hs5 := hoff5.size
      replace y0 := hoff5.cell hYu hDM.out.1 hDM.out.2.1 hDM.out.2.2 y0
      replace y1 := hoff5.cell hYu hDM.out.1 hDM.out.2.1 hDM.out.2.2 y1
      have hbb5 : Below w2.heap.size w2 w5 := hbbu.out.trans (hoff5.below (hok.out.mono hsu3) (by omega))
      have hpf := progFolds w5 r K _ E (hrow5.read.mono (Nat.le_refl _)) (by omega)
      have hpfe : pfL r K E = foldsF E := by unfold pfL; rw [if_pos hgi.out]
      obtain ⟨FF, hFF⟩ : ∃ z, z = foldsF E := ⟨_, rfl⟩
      rw [hpfe, ← hFF] at hpf
      have hFl : FF.length ≤ 28800 := by have := pf_len r K E; rw [hpfe, ← hFF] at this; exact this
      obtain ⟨C, hC⟩ : ∃ z, z = decide ((k, d) ∈ FF) := ⟨_, rfl⟩
      replace hFF := hidI hFF
      replace hpfe := hidI hpfe
      replace hrow5 := hidI hrow5
      replace hst5 := hidI hst5
      replace hoff5 := hidI hoff5
      replace hbb5 := hidI hbb5
      refine hK.out _ _ ?_ (fun hHeld => ?_)
      · try dsimp only
        ((repeat' apply And.intro) <;> assumption)
      clear hK
      try simp only [Act.put, List.setIfInBounds_toArray, List.set_cons_zero, List.set_cons_succ]
      refine wpAnyH_ready (rs := [2]) (by kernel_rfl) (by simp) ?_
      refine AllReadyH.cons rfl (fun Kz hK => ?_) AllReadyH.nil
      rw [if_pos (by rfl)]
      go_simp
      go_at_call 39
      (with_reducible refine hpf.mono ?_)
      rintro e w6 ⟨aL, cL, rfl, hrow6, hb6⟩
      have hs6 := hb6.size
      replace y0 := below_cell y0 hb6 (by omega)
      replace y1 := below_cell y1 hb6 (by omega)
      have hct : Calls Tryz.prog 38 #[.slice aL FF.length cL, .agg #[.int .i64 k, .int .i64 d]] w6 fun e w' => e = .returned (.bool C) ∧ Below w6.heap.size w6 w' := by
        by_cases h0 : FF.length = 0
        · have hFz := List.eq_nil_of_length_eq_zero h0
          have hCf : C = false := by rw [hC, hFz]; simp
          rw [hCf, h0]
          exact contains_nil w6 aL cL k d
        · obtain ⟨b', off', haL, _, _, _⟩ := ReadF.cells hrow6.read 0 (by omega)
          subst haL
          rw [hC]
          exact contains_any w6 b' off' _ cL FF k d hrow6.read rfl (by omega)
      replace hC := hidI hC
      replace hrow6 := hidI hrow6
      replace hb6 := hidI hb6
      refine hK.out _ _ ?_ (fun hHeld => ?_)
      · try dsimp only
        ((repeat' apply And.intro) <;> assumption)
      clear hK
      try simp only [Act.put, List.setIfInBounds_toArray, List.set_cons_zero, List.set_cons_succ]
      refine wpAnyH_ready (rs := [4]) (by kernel_rfl) (by simp) ?_
      refine AllReadyH.cons rfl (fun Kz hK => ?_) AllReadyH.nil
      rw [if_pos (by rfl)]
      go_simp
      go_at_call 38
      (with_reducible refine hct.mono ?_)
      rintro e w7 ⟨rfl, hb7⟩
      have hs7 := hb7.size
      replace y0 := below_cell y0 hb7 (by omega)
      replace y1 := below_cell y1 hb7 (by omega)
      replace hb7 := hidI hb7
      refine hK.out _ _ ?_ (fun hHeld => ?_)
      · try dsimp only
        ((repeat' apply And.intro) <;> assumption)
      clear hK
      try simp only [Act.put, List.setIfInBounds_toArray, List.set_cons_zero, List.set_cons_succ]
      refine tk 5 27 ?_
      refine wpAnyH_done (by kernel_rfl) ?_ _
      refine hnorm _ _ ?_
      clear hnorm hpan
      repeat clear hHeld
      try simp only [Exit.then]
      clear hrs hpf hct
      have hb57 : Below w5.heap.size w5 w7 := hb6.out.trans (hb7.out.mono hs6)
      have hbb7 : Below w2.heap.size w2 w7 := hbb5.out.trans (hb57.mono (by omega))
      have hst7 := hst5.out.below (hok.out.mono (show w3.heap.size ≤ w5.heap.size by omega)) hb57
      have hbw7 : Below w.heap.size w w7 := hb12.out.trans (hbb7.mono hbw2)
      have hbw17 : Below w1.heap.size w1 w7 := hb12'.out.trans (hbb7.mono hb2l)
      have hre : reOk r s es l i = C := by rw [hmem.out, hC.out, hFF.out]
      replace hb57 := hidI hb57
      cases C with
      | false =>
        have hnz : reAll r s es l nl = false := reAll_not hlt hre
        have h0_ := hnall.out hnz
        have q0 := below_cell g0.out hbb7 (by omega)
        have q1 := below_cell g1.out hbb7 (by omega)
        have q2 := below_cell g2.out hbb7 (by omega)
        have hbx0 := hbw7
        have hbx1 := hbw17
        replace hbw7 := hidI hbw7
        replace hbw17 := hidI hbw17
        replace hbb7 := hidI hbb7
        replace hst7 := hidI hst7
        replace hre := hidI hre
        replace hnz := hidI hnz
        replace hC := hidI hC.out
        clear y0 y1
        obtain ⟨hZB0, hZS0, hZE0⟩ := h0_
        have hcc := hcopy.out w7 ((h.out.below hbx0).mono (hbx0).size)
        have hsW : w1.heap.size ≤ w7.heap.size := (hbx1).size
        have hbWx := hbx0
        have hbWy := hbx1
        replace hZS0 := hidI hZS0
        replace hZE0 := hidI hZE0
        replace hZB0 := hidI hZB0
        replace hbWx := hidI hbWx
        replace hbWy := hidI hbWy
        go_wp2_with fail
        refine hcc.mono ?_
        rintro e w5 ⟨ca, cc, rfl, hrow, hb5⟩
        rw [← hn.out]
        rw [← hn.out] at hrow
        clear hcc
        have hb15 : Below w.heap.size w w5 := hbWx.out.trans (hb5.mono hbWx.out.size)
        have hR5 := hRk.out w5 (hbWy.out.trans (hb5.mono hsW))
        have hs25 := hb5.size
        have y0 := cell_of_heap hR5 0
        have y1 := cell_of_heap hR5 1
        have y2 := cell_of_heap hR5 2
        have f2 := fun j => frozen_of_row w5 (w.heap.size + 1) j _ _ hR5
        simp at y0 y1 y2
        have hfin : LwGraphBool w r s es false (.returned (.tuple #[.agg #[.int .i64 r, .int .i64 s, .slice ca n cc], .bool false])) (((w5.setCell ⟨w.heap.size + 1, 0, none⟩ (.int .i64 r)).setCell ⟨w.heap.size + 1, 1, none⟩ (.int .i64 s)).setCell ⟨w.heap.size + 1, 2, none⟩ (.slice ca n cc)) := by
          have hrw := hrow
          rw [hn.out] at hrw
          rw [hn.out]
          exact ⟨ca, cc, rfl, (RowS.set3_ hrw (.inl (by omega))).wide (by omega) (by rw [size_set3]; exact Nat.le_refl _), hend.out _ _ _ _ hb15⟩
        have hset := set3 hR5 (.int .i64 r) (.int .i64 s) (.slice ca n cc)
        replace hfin := hidI hfin
        replace hset := hidI hset
        replace hR5 := hidI hR5
        replace hrow := hidI hrow
        replace hb5 := hidI hb5
        replace hb15 := hidI hb15
        go_wp2
        (try simp only [Exit.inBlock, Exit.then])
        refine ret_cell2 (x := .bool false) rfl rfl rfl hset.out Tryz.underlying26 sizeGraph ?_
        rw [hZS0.out, hZE0.out, hZB0.out]
        exact hfin.out
      | true =>
        have hra2 : reAll r s es l (i + 1) = true := by rw [reAll, hra.out, hre]; rfl
        have hfo : okM r K E (k, d) = true := by
          refine folds_ok hgi.out ?_
          have := hC.out.symm
          rw [decide_eq_true_eq, hFF.out] at this
          exact this
        obtain ⟨_, k1, k2, k3⟩ := okM_iff.1 hfo
        simp only at k1 k2 k3
        obtain ⟨kN, hkN⟩ : ∃ x : Nat, (x : Int) = k := ⟨k.toNat, by omega⟩
        obtain ⟨dN, hdN⟩ : ∃ x : Nat, (x : Int) = d := ⟨d.toNat, by omega⟩
        have hs37 : w3.heap.size ≤ w7.heap.size := by omega
        have hmg := mergeV_any w7 D w2.heap.size r s (.slice a n cap) nm K kN dN hst7 (hok.out.mono hs37) (by omega) (by omega)
        rw [hkN, hdN] at hmg
        have hnx : reSt r s es l (i + 1) = ((K : Int) - 1, mergeE k d E) := by
          rw [reSt, ← hE.out, ← hKs.out, ← hkd.out, fold_s hfo, fold_e hfo]
        replace hbw7 := hidI hbw7
        replace hbw17 := hidI hbw17
        replace hst7 := hidI hst7
        replace hre := hidI hre
        replace hra2 := hidI hra2
        replace hfo := hidI hfo
        replace hkN := hidI hkN
        replace hdN := hidI hdN
        replace hnx := hidI hnx
        replace hC := hidI hC.out
        go_wp2_with fail
        refine hmg.mono ?_
        rintro e w9 ⟨rfl, hst9, hoff9⟩
        clear hmg
        have hs9 := hoff9.size
        have hbb9 : Hid (Below w2.heap.size w2 w9) := hidI (hbb7.trans (hoff9.below (hok.out.mono hs37) (by omega)))
        have hst10 : Hid (∃ nm K, MgSt w9 D r s (.slice a n cap) nm K ∧ resE nm es = (reSt r s es l (i + 1)).2 ∧ (K : Int) = (reSt r s es l (i + 1)).1) := hidI ⟨_, _, hst9, by rw [hkN.out, hdN.out, resE_next, hres.out, hnx.out], by rw [hnx.out]; simp only; omega⟩
        have hsz9 : Hid (w3.heap.size ≤ w9.heap.size) := hidI (by omega)
        replace hst9 := hidI hst9
        replace hoff9 := hidI hoff9
        replace hbb7 := hidI hbb7
        clear y0 y1
        go_wp2
        go_roundg (nl - (i + 1))
        case rel => exact ⟨i + 1, by have := hi.out; omega, by go_num, hra2, hst10, hbb9, hsz9⟩
        case measure => have := hi.out; omega
    · obtain rfl : i = nl := by omega
      have hii : ¬ (i : Int) < (i : Int) := by omega
      obtain ⟨hZ0, hZ1, hZ2⟩ := hall.out (by first | rfl | trivial) hra.out
      rw [← hE] at hZ2
      rw [← hKs] at hZ1
      have hrs := result_any wr D w2.heap.size r s (.slice a n cap) es nm K hstr (hok.out.mono hszr) (hrd2.out.below hbb.out) (by omega) hDS.out hgr.out
      rw [hres] at hrs
      replace hgi := hidI hgi
      replace hmem := hidI hmem
      replace hres := hidI hres
      replace hKs := hidI hKs
      replace hE := hidI hE
      replace hstr := hidI hstr
      replace hi := hidI hi
      replace hZ0 := hidI hZ0
      replace hZ1 := hidI hZ1
      replace hZ2 := hidI hZ2
      clear hst
      go_wp2_with fail
      refine hrs.mono ?_
      rintro e w5 ⟨ra, rc, rfl, hrow5, hst5, hoff5⟩
      clear hrs
      have hs5 := hoff5.size
      have hbb5 : Below w2.heap.size w2 w5 := hbb.out.trans (hoff5.below (hok.out.mono hszr) (by omega))
      have hb15 : Below w.heap.size w w5 := hb12.out.trans (hbb5.mono hbw2)
      have hR5 := hRk.out w5 (hb12'.out.trans (hbb5.mono hb2l))
      have y0 := cell_of_heap hR5 0
      have y1 := cell_of_heap hR5 1
      have y2 := cell_of_heap hR5 2
      have f2 := fun j => frozen_of_row w5 (w.heap.size + 1) j _ _ hR5
      simp at y0 y1 y2
      have hfin : LwGraphBool w r (K : Int) E true (.returned (.tuple #[.agg #[.int .i64 r, .int .i64 (K : Int), .slice ra E.length rc], .bool true])) (((w5.setCell ⟨w.heap.size + 1, 0, none⟩ (.int .i64 r)).setCell ⟨w.heap.size + 1, 1, none⟩ (.int .i64 (K : Int))).setCell ⟨w.heap.size + 1, 2, none⟩ (.slice ra E.length rc)) :=
        ⟨ra, rc, rfl, (RowS.set3_ hrow5 (.inl (by omega))).wide (by omega) (by rw [size_set3]; exact Nat.le_refl _), hend.out _ _ _ _ hb15⟩
      have hset := set3 hR5 (.int .i64 r) (.int .i64 (K : Int)) (.slice ra E.length rc)
      obtain ⟨m, hm⟩ : ∃ m, m = E.length := ⟨_, rfl⟩
      rw [← hm] at hset hfin ⊢
      replace hm := hidI hm
      replace hfin := hidI hfin
      replace hset := hidI hset
      replace hR5 := hidI hR5
      replace hrow5 := hidI hrow5
      replace hst5 := hidI hst5
      replace hoff5 := hidI hoff5
      replace hbb5 := hidI hbb5
      replace hb15 := hidI hb15
      replace hb0r := hidI hb0r
      replace hb1r := hidI hb1r
      go_wp2
      (try simp only [Exit.inBlock, Exit.then])
      refine ret_cell2 (x := .bool true) rfl rfl rfl hset.out Tryz.underlying26 sizeGraph ?_
      rw [hZ1.out, hZ2.out, hZ0.out]
      exact hfin.out
end Go.Proofs.YtgngfffmkjckdaaGreatDoor
