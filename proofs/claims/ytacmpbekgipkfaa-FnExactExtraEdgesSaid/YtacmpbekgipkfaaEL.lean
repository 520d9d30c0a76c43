/- Is an edge among edges, the program (slices.Contains, laid by tools/ctn.sh). -/
import Derived.Test.YtacmpbekgipkfaaQB
import Derived.Test.YtacmpbekgipkfaaCtn
import Derived.Laws.StructEq
import Derived.Deep.LoopGhost
import Derived.Deep.Cut
namespace Go.Proofs.Ytacmpbekgipkfaa
open Go.RowKit Go.Shelf Go.Lib
set_option linter.unusedVariables false
set_option linter.unusedSimpArgs false

def encEd (x : Ed) : List Value := [.int .i64 x.1, .int .i64 x.2.1, .int .i64 x.2.2]
theorem eqEdL : EqlAt Try.prog 44 (fun x => .agg (encEd x).toArray) (fun x y => x.1 == y.1 && (x.2.1 == y.2.1 && x.2.2 == y.2.2)) := by
  refine ⟨fun x y w => ?_, GuardAt.agg _ (by kernel_rfl)⟩
  have u3 := Try.underlying3
  have a3 := Try.isAgg3
  have z3 := Try.sizeOf3
  have hS : Try.prog.underlying 44 = some (.struct (Try.prog.fieldsOf 44)) := by kernel_rfl
  have hp : Try.prog.stoodInHeld 44 = false := by kernel_rfl
  simp only [encEd]
  rw [run_eql_struct, show (10000 : Nat) = 9999 + 1 from rfl, run_equalIn_agg w 9999 44 _ _ hS hp]
  simp only [Program.fieldsOf, Try.underlying44]
  go_simp
  by_cases h1 : x.1 = y.1 <;> by_cases h2 : x.2.1 = y.2.1 <;> by_cases h3 : x.2.2 = y.2.2 <;> simp [h1, h2, h3]
theorem hasE_cells (w : World) (b off n c : Nat) (l : List Ed) (e : Ed) (h : ReadE w.heap.size w (.slice (some ⟨b, off, none⟩) n c) l) (hn : l.length = n) (hl : n ≤ 1000000000) :
    Calls Try.prog 45 #[.slice (some ⟨b, off, none⟩) n c, .agg #[.int .i64 e.1, .int .i64 e.2.1, .int .i64 e.2.2]] w fun e' w' => e' = .returned (.bool (decide (e ∈ l))) ∧ Below w.heap.size w w' := by
  have hc := AnyQ.slices_Contains Try.ctnE 3 Try.isAgg44 Try.sizeOf44 encEd (fun _ => rfl) _ eqEdL b off n c l e w (by omega) (by omega) (fun j hj i v hv => by
    obtain ⟨b', off', e, _, c0, c1, c2⟩ := ReadE.at3 h j hj
    simp only [Option.some.injEq, Addr.mk.injEq, and_true] at e
    obtain ⟨rfl, rfl⟩ := e
    have hg : l[j]! = l.getD j e0 := by rw [getElem!_pos l j hj, List.getD_eq_getElem?_getD, List.getElem?_eq_getElem hj]; rfl
    rw [hg] at hv
    unfold encEd at hv
    match i, hv with
    | 0, hv => simp at hv; subst hv; simpa using c0
    | 1, hv => simp at hv; subst hv; simpa using c1
    | 2, hv => simp at hv; subst hv; simpa using c2)
  change Calls Try.prog 45 _ _ _ at hc
  refine hc.mono ?_
  rintro e' w' ⟨rfl, hb⟩
  refine ⟨?_, hb⟩
  congr 2
  rw [← hn, List.take_length, Bool.eq_iff_iff, List.any_eq_true, decide_eq_true_eq]
  constructor
  · rintro ⟨x, hx, hxe⟩
    simp only [Bool.and_eq_true, beq_iff_eq] at hxe
    have : e = x := Prod.ext hxe.1 (Prod.ext hxe.2.1 hxe.2.2)
    rw [this]; exact hx
  · intro hx
    exact ⟨e, hx, by simp⟩
theorem indexE_nil (w : World) (a : Option Addr) (c : Nat) (f l t : Int) :
    Calls Try.prog 67 #[.slice a 0 c, .agg #[.int .i64 f, .int .i64 l, .int .i64 t]] w fun e w' => e = .returned (.int .i64 (-1)) ∧ Below w.heap.size w w' := by
  obtain ⟨w1, hw1⟩ : ∃ z, z = w.alloc (.cells #[.int .i64 f, .int .i64 l, .int .i64 t] 44) := ⟨_, rfl⟩
  have hb : Below w.heap.size w w1 := by rw [hw1]; exact (Below.refl _ _).alloc (Nat.le_refl _) _
  go_enter Try.func67, Try.ntmps67
  go_upto_region 1 with fail
  rw [← hw1]
  replace hw1 := hidI hw1
  go_wp2
  go_loopg [8] 0 (fun g i wr => i = .int .i64 0 ∧ g = 0 ∧ Hid (wr = w1))
  case atStart => exact ⟨rfl, rfl, hidI rfl⟩
  case round =>
    obtain ⟨rfl, hg, hwr⟩ := hrel
    have hwr' := hwr.out
    subst hwr'
    replace hg := hidI hg
    replace hwr := hidI hwr.out
    go_wp2
    go_ret
    exact ⟨rfl, hb⟩
theorem containsE_nil (w : World) (a : Option Addr) (c : Nat) (f l t : Int) :
    Calls Try.prog 45 #[.slice a 0 c, .agg #[.int .i64 f, .int .i64 l, .int .i64 t]] w fun e w' => e = .returned (.bool false) ∧ Below w.heap.size w w' := by
  obtain ⟨w1, hw1⟩ : ∃ z, z = w.alloc (.cells #[.int .i64 f, .int .i64 l, .int .i64 t] 44) := ⟨_, rfl⟩
  have hb : Below w.heap.size w w1 := by rw [hw1]; exact (Below.refl _ _).alloc (Nat.le_refl _) _
  obtain ⟨c0, c1, c2⟩ := box3 hw1
  have hix := indexE_nil w1 a c f l t
  have hs : w.heap.size ≤ w1.heap.size := hb.size
  go_enter Try.func45, Try.ntmps45
  go_upto_region 1 with fail
  rw [← hw1]
  replace hw1 := hidI hw1
  go_wp2_with fail
  refine hix.mono ?_
  rintro e w2 ⟨rfl, hb2⟩
  have hb02 := hb.trans (hb2.mono hs)
  clear c0 c1 c2
  go_wp2
  go_ret
  exact ⟨rfl, hb02⟩
theorem hasE_any (w : World) (B : Nat) (v : Value) (l : List Ed) (e : Ed) (hB : B ≤ w.heap.size) (h : ReadE B w v l) (hl : l.length ≤ 1000000000) :
    Calls Try.prog 45 #[v, .agg #[.int .i64 e.1, .int .i64 e.2.1, .int .i64 e.2.2]] w (LwBool w (decide (e ∈ l))) := by
  replace h := h.mono hB
  obtain ⟨a, c, rfl, _⟩ := h.form
  rcases Nat.eq_zero_or_pos l.length with h0 | h0
  · have : l = [] := List.length_eq_zero_iff.1 h0
    subst this
    refine (containsE_nil w a c e.1 e.2.1 e.2.2).mono ?_
    rintro e' w' ⟨rfl, hb⟩
    exact ⟨by simp, hb⟩
  · obtain ⟨b, off, rfl, _, _⟩ := ReadE.at3 h 0 h0
    refine (hasE_cells w b off l.length c l e h rfl hl).mono ?_
    rintro e' w' ⟨rfl, hb⟩
    exact ⟨rfl, hb⟩
end Go.Proofs.Ytacmpbekgipkfaa
