/- Cores, the program: slices.SortFunc of edges, of none too. -/
import Derived.Test.YtecceaijdjnflaaGreatSF2
import Derived.Deep.LoopGhost
namespace Go.Proofs.YtecceaijdjnflaaGreat
open Go.RowKit
set_option linter.unusedVariables false
set_option linter.unusedSimpArgs false

def NilRet (w : World) (e : Ending) (w' : World) : Prop := e = .returned (.tuple #[]) ∧ Below w.heap.size w w'
set_option maxRecDepth 100000 in
set_option maxHeartbeats 1600000 in
theorem insert_nil (w : World) (f : Value) (hf : Hid (f = .func (.func 57) #[] #[])) :
    Calls Tryz.prog 88 #[.slice none 0 0, .int .i64 0, .int .i64 0, f] w (NilRet w) := by
  have hr : NilRet w (.returned (.tuple #[])) w := ⟨rfl, Below.refl _ _⟩
  replace hr := hidI hr
  go_enter Tryz.func88, Tryz.ntmps88
  go_wp2
  go_loopg [8] 1 (fun g i wr => i = .int .i64 1 ∧ g = 1 ∧ Hid (wr = w))
  case atStart => exact ⟨rfl, rfl, hidI rfl⟩
  case round =>
    obtain ⟨rfl, hg, hw⟩ := hrel
    replace hg := hidI hg
    go_wp2
    (try simp only [Exit.inBlock, Exit.then]); first | refine bodyPost_end (results_none rfl _ _ _) rfl ?_ | refine bodyPost_ret (results_none rfl _ _ _) rfl ?_
    rw [hw.out]; exact hr.out
set_option maxRecDepth 100000 in
set_option maxHeartbeats 1600000 in
theorem pdq_nil (w : World) (f : Value) (n : Int) (hf : Hid (f = .func (.func 57) #[] #[])) :
    Calls Tryz.prog 80 #[.slice none 0 0, .int .i64 0, .int .i64 0, .int .i64 n, f] w (NilRet w) := by
  have hi := insert_nil w f hf
  go_enter Tryz.func80, Tryz.ntmps80
  go_wp2_with fail
  go_loopg [1, 2] 1 (fun g i j wr => i = .int .i64 0 ∧ j = .int .i64 0 ∧ g = 1 ∧ Hid (wr = w))
  case atStart => exact ⟨rfl, rfl, rfl, hidI rfl⟩
  case round =>
    obtain ⟨rfl, rfl, hg, hw⟩ := hrel
    replace hg := hidI hg
    rw [← hw.out] at hi
    go_wp2_with fail
    refine hi.mono ?_
    rintro e w4 hr
    rw [hw.out] at hr
    obtain ⟨rfl, hb⟩ := hr
    go_wp2
    (try simp only [Exit.inBlock, Exit.then]); first | refine bodyPost_end (results_none rfl _ _ _) rfl ?_ | refine bodyPost_ret (results_none rfl _ _ _) rfl ?_
    exact ⟨rfl, hb⟩
set_option maxRecDepth 100000 in
set_option maxHeartbeats 1600000 in
theorem len64_zero (w : World) : Calls Tryz.prog 97 #[.int .u64 0] w (fun e w' => e = .returned (.int .i64 0) ∧ w' = w) := by
  go_enter Tryz.func97, Tryz.ntmps97
  go_wp2
  go_ret
  exact ⟨ret_i (by kernel_rfl), rfl⟩
theorem len_zero (w : World) : Calls Tryz.prog 81 #[.int .u64 0] w (fun e w' => e = .returned (.int .i64 0) ∧ w' = w) := by
  have h := len64_zero w
  go_enter Tryz.func81, Tryz.ntmps81
  go_wp2_with fail
  refine h.mono ?_
  rintro e w2 ⟨rfl, rfl⟩
  go_wp2
  go_ret
  exact ⟨rfl, rfl⟩
set_option maxHeartbeats 1600000 in
theorem sort_nil (w : World) (f : Value) (hf : Hid (f = .func (.func 57) #[] #[])) :
    Calls Tryz.prog 61 #[.slice none 0 0, f] w (NilRet w) := by
  have hq := pdq_nil w f 0 hf
  have hl := len_zero w
  go_enter Tryz.func61, Tryz.ntmps61
  go_wp2_with fail
  refine hl.mono ?_
  rintro e w2 ⟨rfl, h2⟩
  have h3 := h2.symm
  subst h3
  go_wp2_with fail
  refine hq.mono ?_
  rintro e w4 ⟨rfl, hb⟩
  go_wp2
  (try simp only [Exit.inBlock, Exit.then]); first | refine bodyPost_end (results_none rfl _ _ _) rfl ?_ | refine bodyPost_ret (results_none rfl _ _ _) rfl ?_
  exact ⟨rfl, hb⟩
/-- Sorted edges, of the call's own. -/
def SortAll (base : Nat) (es : List Ed) (v : Value) (w : World) (e : Ending) (w' : World) : Prop :=
  e = .returned (.tuple #[]) ∧ Below base w w' ∧ ∃ ds : List Ed, ds.Perm es ∧ ds.Pairwise (fun a b => ¬ cmpE b a < 0) ∧ OwnsE w' base v ds
theorem sort_all (w : World) (base : Nat) (v : Value) (es : List Ed) (hown : OwnsE w base v es) (hb : base ≤ w.heap.size) (hl : es.length ≤ 100000) :
    Calls Tryz.prog 61 #[v, .func (.func 57) #[] #[]] w (SortAll base es v w) := by
  have hown' := hown
  have hlt := World.ownsRow.lt hown
  obtain ⟨_, ⟨rfl, h2⟩ | ⟨g, cap, cur, rfl, _⟩⟩ := hown'
  · have he : es = [] := List.length_eq_zero_iff.1 h2
    subst he
    refine (sort_nil w _ (hidI rfl)).mono ?_
    rintro e w' ⟨rfl, hb2⟩
    exact ⟨rfl, hb2.mono hb, [], List.Perm.refl _, List.Pairwise.nil, OwnsS.nil _ _⟩
  · refine (sortE_any w base g cap es hown hl).mono ?_
    rintro e w' ⟨rfl, hg, ds, hp, hs, ho⟩
    exact ⟨rfl, (Below.refl base w).grown hg hb (fun k hk => by cases hk; exact (hlt g rfl).1), ds, hp, hs, ho⟩
end Go.Proofs.YtecceaijdjnflaaGreat
