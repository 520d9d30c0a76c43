/- Words, the program: the linked list of a reduced product. -/
import Derived.Test.YtpjlamnjiilgbaaAI
import Derived.Test.YtpjlamnjiilgbaaMX
import Derived.Test.YtpjlamnjiilgbaaWS1
import Derived.ProofKit
namespace Go.Proofs.Ytpjlamnjiilgbaa
open Go.RowKit
set_option linter.unusedVariables false

/-- v is the linked list of the stack s; its links lie in blocks from lo on and below hi. -/
def Chain (w : World) (lo hi : Nat) : List Int → Value → Prop
  | [], v => v = .pointer none
  | x :: s, v => ∃ (b : Nat) (p : Value), v = .pointer (some ⟨b, 0, none⟩) ∧ lo ≤ b ∧ b < hi ∧ w.heap[b]? = some (.cells #[.int .i64 x, .int .i64 ((s.length : Int) + 1), p] 39 (0, 0)) ∧ Chain w lo hi s p
theorem Chain.mono {w : World} {lo hi hi' : Nat} (hh : hi ≤ hi') : ∀ {s : List Int} {v : Value}, Chain w lo hi s v → Chain w lo hi' s v := by
  intro s
  induction s with
  | nil => intro v h; exact h
  | cons x s ih =>
    intro v h
    obtain ⟨b, p, hv, h1, h2, h3, h4⟩ := h
    exact ⟨b, p, hv, h1, by omega, h3, ih h4⟩
theorem Chain.below {w w' : World} {lo hi B : Nat} (hb : Below B w w') (hB : hi ≤ B) : ∀ {s : List Int} {v : Value}, Chain w lo hi s v → Chain w' lo hi s v := by
  intro s
  induction s with
  | nil => intro v h; exact h
  | cons x s ih =>
    intro v h
    obtain ⟨b, p, hv, h1, h2, h3, h4⟩ := h
    exact ⟨b, p, hv, h1, h2, by rw [hb.block b (by omega)]; exact h3, ih h4⟩
/-- What followedBy leaves. -/
def EndRet (w : World) (lo : Nat) (s : List Int) (e : Ending) (w' : World) : Prop := ∃ v, e = .returned v ∧ Chain w' lo w'.heap.size s v ∧ Below w.heap.size w w'
theorem endRet_new {w : World} {lo : Nat} {s : List Int} {x : Int} {v : Value} (hlo : lo ≤ w.heap.size) (h : Chain w lo w.heap.size s v) :
    EndRet w lo (x :: s) (.returned (.pointer (some ⟨w.heap.size, 0, none⟩))) (w.alloc (.cells #[.int .i64 x, .int .i64 ((s.length : Int) + 1), v] 39)) := by
  have hb := (Below.refl w.heap.size w).alloc (Nat.le_refl _) (.cells #[.int .i64 x, .int .i64 ((s.length : Int) + 1), v] 39)
  refine ⟨_, rfl, ⟨w.heap.size, v, rfl, hlo, by simp, heap_alloc_new w _, ?_⟩, hb⟩
  exact (h.below hb (Nat.le_refl _)).mono (by simp)
set_option maxHeartbeats 800000 in
theorem followedBy_any (w : World) (lo : Nat) (v : Value) (s : List Int) (x : Int) (hlo : lo ≤ w.heap.size) (h : Chain w lo w.heap.size s v) (hs : InR s) (hx : -9223372036854775808 ≤ x ∧ x ≤ 9223372036854775807) (hl : s.length ≤ 1000000000) :
    Calls Try.prog 20 #[v, .int .i64 x] w (EndRet w lo (push s x)) := by
  cases s with
  | nil =>
    have hnil : v = .pointer none := h
    subst hnil
    have hr : EndRet w lo (push [] x) (.returned (.pointer (some ⟨w.heap.size, 0, none⟩))) (w.alloc (.cells #[.int .i64 x, .int .i64 1, .pointer none] 39)) := endRet_new (s := []) hlo h
    replace h := hidI h
    replace hr := hidI hr
    go_enter Try.func20, Try.ntmps20
    go_wp2
    go_ret
    exact hr.out
  | cons y t =>
    have hch := h
    obtain ⟨b, p, rfl, h1, h2, h3, h4⟩ := h
    have c0 : w.cell? ⟨b, 0, none⟩ = some (.int .i64 y) := by simp [World.cell?, h3]
    have c1 : w.cell? ⟨b, 1, none⟩ = some (.int .i64 ((t.length : Int) + 1)) := by simp [World.cell?, h3]
    have c2 : w.cell? ⟨b, 2, none⟩ = some p := by simp [World.cell?, h3]
    have hy := hs.head
    obtain ⟨n, hn⟩ : ∃ n, n = t.length := ⟨_, rfl⟩
    rw [List.length_cons, ← hn] at hl
    rw [← hn] at c1
    cases hi : inv y x with
    | true =>
      have hr : EndRet w lo (push (y :: t) x) (.returned p) w := ⟨p, rfl, by rw [push_yes hi]; exact h4, Below.refl _ _⟩
      have hcall := areInv w y x hy hx true hi
      replace hr := hidI hr
      replace hi := hidI hi
      replace hn := hidI hn
      clear h3 h4 hch hs
      go_enter Try.func20, Try.ntmps20
      go_wp2_with fail
      refine hcall.mono ?_
      rintro e w' ⟨rfl, rfl⟩
      go_wp2
      go_ret
      exact hr.out
    | false =>
      have hr : EndRet w lo (push (y :: t) x) (.returned (.pointer (some ⟨w.heap.size, 0, none⟩))) (w.alloc (.cells #[.int .i64 x, .int .i64 ((n : Int) + 1 + 1), .pointer (some ⟨b, 0, none⟩)] 39)) := by
        rw [push_no hi]
        have := endRet_new (x := x) hlo hch
        rw [List.length_cons, ← hn] at this
        exact this
      have hcall := areInv w y x hy hx false hi
      replace hr := hidI hr
      replace hi := hidI hi
      replace hn := hidI hn
      clear h3 h4 hch hs
      go_enter Try.func20, Try.ntmps20
      go_wp2_with fail
      refine hcall.mono ?_
      rintro e w' ⟨rfl, rfl⟩
      go_wp2
      go_ret
      exact hr.out
end Go.Proofs.Ytpjlamnjiilgbaa
