/- Folds, the program: is a fold in a slice of folds (slices.Contains)? -/
import Derived.Test.YtdeofaimgldklaaHMS
import Derived.Test.YtdeofaimgldklaaDlc
import Derived.Laws.StructEq
import Derived.Deep.LoopGhost
import Derived.Deep.Cut
namespace Go.Proofs.Ytdeofaimgldklaa
open Go.RowKit Go.Shelf Go.Lib
set_option linter.unusedVariables false
set_option linter.unusedSimpArgs false

def encFd (x : tupF) : List Value := [.int .i64 x.1, .int .i64 x.2]
theorem eqFd : EqlAt Try.prog 27 (fun x => .agg (encFd x).toArray) (fun x y => x.1 == y.1 && x.2 == y.2) := by
  refine ⟨fun x y w => ?_, GuardAt.agg _ (by kernel_rfl)⟩
  have u3 := Try.underlying3
  have a3 := Try.isAgg3
  have z3 := Try.sizeOf3
  have hS : Try.prog.underlying 27 = some (.struct (Try.prog.fieldsOf 27)) := by kernel_rfl
  have hp : Try.prog.stoodInHeld 27 = false := by kernel_rfl
  simp only [encFd]
  rw [run_eql_struct, show (10000 : Nat) = 9999 + 1 from rfl, run_equalIn_agg w 9999 27 _ _ hS hp]
  simp only [Program.fieldsOf, Try.underlying27]
  go_simp
  by_cases h1 : x.fst = y.fst <;> by_cases h2 : x.snd = y.snd <;> simp [h1, h2]
theorem contains_any (w : World) (b off n c : Nat) (l : List tupF) (k d : Int) (h : ReadF w.heap.size w (.slice (some ⟨b, off, none⟩) n c) l) (hn : l.length = n) (hl : n ≤ 1000000000) :
    Calls Try.prog 53 #[.slice (some ⟨b, off, none⟩) n c, .agg #[.int .i64 k, .int .i64 d]] w fun e w' => e = .returned (.bool (decide ((k, d) ∈ l))) ∧ Below w.heap.size w w' := by
  have hc := AnyQ.slices_Contains Try.ctnF 2 Try.isAgg27 Try.sizeOf27 encFd (fun _ => rfl) _ eqFd b off n c l (k, d) w (by omega) (by omega) (fun j hj i v hv => by
    obtain ⟨b', off', e, _, c0, c1⟩ := ReadF.cells h j hj
    simp only [Option.some.injEq, Addr.mk.injEq, and_true] at e
    obtain ⟨rfl, rfl⟩ := e
    have hg : l[j]! = l.getD j zeroF := by rw [getElem!_pos l j hj, List.getD_eq_getElem?_getD, List.getElem?_eq_getElem hj]; rfl
    rw [hg] at hv
    unfold encFd at hv
    match i, hv with
    | 0, hv => simp at hv; subst hv; simpa using c0
    | 1, hv => simp at hv; subst hv; simpa using c1)
  change Calls Try.prog 53 _ _ _ at hc
  refine hc.mono ?_
  rintro e w' ⟨rfl, hb⟩
  refine ⟨?_, hb⟩
  congr 2
  rw [← hn, List.take_length, Bool.eq_iff_iff, List.any_eq_true, decide_eq_true_eq]
  constructor
  · rintro ⟨x, hx, hxe⟩
    simp only [Bool.and_eq_true, beq_iff_eq] at hxe
    have : (k, d) = x := Prod.ext hxe.1 hxe.2
    rw [this]; exact hx
  · intro hx
    exact ⟨(k, d), hx, by simp⟩
theorem index_nil (w : World) (a : Option Addr) (c : Nat) (k d : Int) :
    Calls Try.prog 72 #[.slice a 0 c, .agg #[.int .i64 k, .int .i64 d]] w fun e w' => e = .returned (.int .i64 (-1)) ∧ Below w.heap.size w w' := by
  have hb : Below w.heap.size w (w.alloc (.cells #[.int .i64 k, .int .i64 d] 27)) := (Below.refl _ _).alloc (Nat.le_refl _) _
  obtain ⟨w1, hw1⟩ : ∃ z, z = w.alloc (.cells #[.int .i64 k, .int .i64 d] 27) := ⟨_, rfl⟩
  rw [← hw1] at hb
  go_enter Try.func72, Try.ntmps72
  go_upto_region 1 with fail
  rw [← hw1]
  replace hw1 := hidI hw1
  go_wp2
  go_loopg [8] 0 (fun g i wr => i = .int .i64 0 ∧ g = 0 ∧ Hid (wr = w1))
  case atStart => exact ⟨rfl, rfl, hidI rfl⟩
  case round =>
    obtain ⟨rfl, hg, hwr⟩ := hrel
    have hwr' := hwr.out
    subst hwr'
    replace hg := hidI hg
    replace hwr := hidI hwr.out
    go_wp2
    go_ret
    exact ⟨rfl, hb⟩
theorem contains_nil (w : World) (a : Option Addr) (c : Nat) (k d : Int) :
    Calls Try.prog 53 #[.slice a 0 c, .agg #[.int .i64 k, .int .i64 d]] w fun e w' => e = .returned (.bool false) ∧ Below w.heap.size w w' := by
  obtain ⟨w1, hw1⟩ : ∃ z, z = w.alloc (.cells #[.int .i64 k, .int .i64 d] 27) := ⟨_, rfl⟩
  have hb : Below w.heap.size w w1 := by rw [hw1]; exact (Below.refl _ _).alloc (Nat.le_refl _) _
  have hk := heap_alloc_new w (.cells #[.int .i64 k, .int .i64 d] 27)
  rw [← hw1] at hk
  have c0 := cell_of_heap hk 0
  have c1 := cell_of_heap hk 1
  simp at c0 c1
  have hix := index_nil w1 a c k d
  have hs : w.heap.size ≤ w1.heap.size := hb.size
  replace hk := hidI hk
  go_enter Try.func53, Try.ntmps53
  go_upto_region 1 with fail
  rw [← hw1]
  replace hw1 := hidI hw1
  go_wp2_with fail
  refine hix.mono ?_
  rintro e w2 ⟨rfl, hb2⟩
  have hb02 := hb.trans (hb2.mono hs)
  clear c0 c1
  go_wp2
  go_ret
  exact ⟨rfl, hb02⟩
end Go.Proofs.Ytdeofaimgldklaa
