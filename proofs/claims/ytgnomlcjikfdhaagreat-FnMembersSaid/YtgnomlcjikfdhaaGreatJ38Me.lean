import Derived.Laws.AppendOwnNone
import Derived.Deep.Cut
import Derived.Laws.AppendOwn
import Derived.Maps.AppendAt
import Derived.Test.YtgnomlcjikfdhaaGreatJ37Me
import Derived.Test.YtgnomlcjikfdhaaGreatJ21Me
import Derived.Test.YtgnomlcjikfdhaaGreatJ27Me
import Derived.Test.YtgnomlcjikfdhaaGreatJ1Me
namespace Go.Proofs.YtgnomlcjikfdhaaGreat
open Go.RowKit Go.Maps
set_option linter.unusedVariables false
set_option linter.unusedSimpArgs false
theorem KJ {es : List Ed} {l : Int} : ∀ {w : List Int} {v e : Int}, wk es v w = (e, w.length) → 0 ≤ aV es e l → wk es v (w ++ [l]) = (aV es e l, (w ++ [l]).length) := by
 intro w
 induction w with
 | nil =>
  intro v e h h0; rw [wk] at h; simp only [Prod.mk.injEq] at h; obtain ⟨rfl, _⟩ := h; rw [List.nil_append, wk, if_neg (by omega), wk]; rfl
 | cons x w ih =>
  intro v e h h0; rw [wk] at h; split at h
  · simp at h
  · rename_i hn
    simp only [Prod.mk.injEq, List.length_cons] at h; have h1 : wk es (aV es v x) w = (e, w.length) := by
     rw [← h.1]; have h2 : (wk es (aV es v x) w).2 = w.length := by omega
     rw [← h2]
    rw [List.cons_append, wk, if_neg hn, ih h1 h0]; simp
theorem JU {es : List Ed} {ls : List Int} {v : Int} : ∀ n, ∀ p ∈ dC es ls v n, wk es v p.1 = (p.2, p.1.length) := by
 intro n
 induction n with
 | zero => intro p hp; rw [dC, List.mem_singleton] at hp; subst hp; rfl
 | succ n ih =>
  intro p hp; rw [dC, List.mem_flatMap] at hp; obtain ⟨q, hq, hp⟩ := hp; unfold kids at hp; rw [List.mem_flatMap] at hp; obtain ⟨l, hl, hp⟩ := hp; unfold dX at hp; split at hp
  · rename_i hc
    rw [List.mem_singleton] at hp; subst hp; exact KJ (ih q hq) hc.1
  · cases hp
theorem Fg {r s : Int} {es : List Ed} {ls : List Int} (hfo : bJ r s es = true) (hls : uz ls) {v : Int} (hv : 0 ≤ v ∧ v < s) : ∀ n, ∀ p ∈ dC es ls v n, EG s n p := by
 intro n
 induction n with
 | zero => intro p hp; rw [dC, List.mem_singleton] at hp; subst hp; exact ⟨by simp, (fun x hx => (List.not_mem_nil hx).elim), hv.1, hv.2⟩
 | succ n ih =>
  intro p hp; rw [dC, List.mem_flatMap] at hp; obtain ⟨q, hq, hp⟩ := hp; exact FP hfo hls (ih q hq) hp
theorem Fj {es : List Ed} {ls : List Int} (hls : ls.length ≤ 6) (v : Int) : ∀ n, n ≤ 4 → (dC es ls v n).length ≤ 1296 := fun n hn => (vT (es := es) hls v hn).2
def jB (es : List Ed) (ls : List Int) (v : Int) : Nat → List Wa
 | 0 => []
 | n + 1 => jB es ls v n ++ dC es ls v n
theorem zF {es : List Ed} {ls : List Int} {v : Int} : ∀ n, jB es ls v (n + 1) = qA es ls v n := by
 intro n
 induction n with
 | zero => rfl
 | succ n ih => rw [jB, ih]; rfl
theorem Fe {es : List Ed} {ls : List Int} (hls : ls.length ≤ 6) (v : Int) : ∀ n, n ≤ 5 → (jB es ls v n).length ≤ 1555 := by
 intro n hn
 cases n with
 | zero => simp [jB]
 | succ n => rw [zF]; exact (vT (es := es) hls v (by omega)).1
def fM (w : World) (lo : Nat) (v : Value) (P : List (Value × Wa)) : Prop := bU w lo v (P.map (·.1)) ∧ jJ w lo v P
def jZ (v v' : Value) (P' : List (Value × Wa)) : Prop := (∀ b, v.ownBlock = some b → v'.ownBlock ≠ some b) ∧ ∀ p ∈ P', ∀ b, p.1.ownBlock = some b → v.ownBlock ≠ some b
theorem fM.lt {w : World} {lo : Nat} {v : Value} {P : List (Value × Wa)} (h : fM w lo v P) : (∀ b, v.ownBlock = some b → b < w.heap.size) ∧ ∀ p ∈ P, ∀ b, p.1.ownBlock = some b → b < w.heap.size :=
 ⟨fun b hb => (World.ownsRow.lt h.1 b hb).2, fun p hp b hb => (h.2.lt p hp b hb).2⟩
theorem fM.below {w w' : World} {lo : Nat} {v : Value} {P : List (Value × Wa)} (h : fM w lo v P) (hb : Below w.heap.size w w') : fM w' lo v P :=
 ⟨bU.other h.1 fun k hk => hb.block k (h.lt.1 k hk), h.2.keep2 hb.size fun p hp b _ hlt => hb.block b hlt⟩
theorem fM.keep {w w2 w3 : World} {X : Obj} {lo : Nat} {v x : Value} {P : List (Value × Wa)} (h : fM w lo v P) (hb : Below w.heap.size w w2) (hg : (w2.alloc X).grownBy w3 x.ownBlock) (ha : jZ x v P) : fM w3 lo v P := by
 have h2 := h.below hb; have hsz : w2.heap.size + 1 ≤ w3.heap.size := by have := hg.size; simpa using this
 have hk : ∀ b, b < w2.heap.size → x.ownBlock ≠ some b → w3.heap[b]? = w2.heap[b]? := fun b q1 q2 => by
  rw [hg.block b (by simp; omega) (fun e => q2 e.symm), heap_alloc_old _ _ q1]
 exact ⟨bU.other h2.1 fun k hk' => hk k (h2.lt.1 k hk') (fun e => ha.1 k e hk'), h2.2.keep2 (by omega) fun p hp b hb' hlt => hk b hlt (ha.2 p hp b hb')⟩
theorem fM.push {w w2 w3 : World} {X : Obj} {lo : Nat} {v v' u : Value} {k : Wa} {P : List (Value × Wa)} (h : fM w lo v P) (hlo : lo ≤ w.heap.size) (hb : Below w.heap.size w w2) (hrow : bg w2 w.heap.size w2.heap.size u k.1)
 (hg : (w2.alloc X).grownBy w3 v.ownBlock) (hloc : v'.ownBlock = v.ownBlock ∨ v'.ownBlock = some (w2.heap.size + 1)) (hown : bU w3 lo v' (P.map (·.1) ++ [u])) : fM w3 lo v' (P ++ [(u, k)]) := by
 have hsz : w2.heap.size + 1 ≤ w3.heap.size := by have := hg.size; simpa using this
 have hlt := h.lt; refine ⟨by rw [List.map_append]; exact hown, ?_⟩
 have hE2 := (h.below hb).2; have hu : ∀ b, u.ownBlock = some b → w.heap.size ≤ b ∧ b < w2.heap.size := fun b hb' => by
  rcases hrow.block with ⟨e1, _⟩ | ⟨c, e1, e2, e3, _⟩
  · rw [e1] at hb'; cases hb'
  · rw [e1] at hb'; cases hb'; exact ⟨e2, e3⟩
 have hs := hE2.snoc (k := k) hlt.2 hrow hlo (fun b hb' e => by have := hlt.1 b e; have := (hu b hb').1; omega)
 refine hs.keep (by omega) (fun b q1 q2 => ?_) ?_
 · rw [hg.block b (by simp; omega) (fun e => q2 e.symm), heap_alloc_old _ _ q1]
 · rcases hloc with e | e
   · exact .inl e
   · exact .inr ⟨_, e, by omega⟩
theorem jZ.row {w w2 : World} {x v v' u : Value} {k : Wa} {P : List (Value × Wa)} (h : jZ x v P) (hx : ∀ b, x.ownBlock = some b → b < w.heap.size) (hsz : w.heap.size ≤ w2.heap.size) (hrow : bg w2 w.heap.size w2.heap.size u k.1)
 (hloc : v'.ownBlock = v.ownBlock ∨ v'.ownBlock = some (w2.heap.size + 1)) : jZ x v' (P ++ [(u, k)]) := by
 refine ⟨fun b hb => ?_, fun p hp b hb => ?_⟩
 · rcases hloc with e | e
   · rw [e]; exact h.1 b hb
   · rw [e]; have := hx b hb; simp; omega
 · rcases List.mem_append.1 hp with hp | hp
   · exact h.2 p hp b hb
   · rw [List.mem_singleton] at hp
     subst hp; intro e; have := hx b e
     rcases hrow.block with ⟨e1, _⟩ | ⟨c, e1, e2, e3, _⟩
     · have hb2 : u.ownBlock = some b := hb; rw [e1] at hb2; cases hb2
     · have hb2 : u.ownBlock = some b := hb; rw [e1] at hb2; cases hb2; omega
theorem jZ.self {w : World} {lo n : Nat} {x x' v : Value} {P : List (Value × Wa)} (h : jZ x v P) (hr : fM w lo v P) (hn : w.heap.size ≤ n) (hloc : x'.ownBlock = x.ownBlock ∨ x'.ownBlock = some n) : jZ x' v P := by
 rcases hloc with e | e
 · exact ⟨fun b hb => h.1 b (by rw [← e]; exact hb), fun p hp b hb => by rw [e]; exact h.2 p hp b hb⟩
 · refine ⟨fun b hb e2 => ?_, fun p hp b hb => ?_⟩
   · rw [e] at hb; cases hb; have := hr.lt.1 _ e2; omega
   · rw [e]; have := hr.lt.2 p hp b hb; simp; omega
def dO (w : World) (lo : Nat) (vo : Value) (O : List (Value × Wa)) (vn : Value) (N : List (Value × Wa)) (vl : Value) (L : List (Value × Wa)) : Prop :=
 (fM w lo vo O ∧ fM w lo vn N ∧ fM w lo vl L) ∧ (jZ vo vn N ∧ jZ vo vl L) ∧ (jZ vn vo O ∧ jZ vn vl L)
theorem dO.below {w w' : World} {lo : Nat} {vo vn vl : Value} {O N L : List (Value × Wa)} (h : dO w lo vo O vn N vl L) (hb : Below w.heap.size w w') : dO w' lo vo O vn N vl L :=
 ⟨⟨h.1.1.below hb, h.1.2.1.below hb, h.1.2.2.below hb⟩, h.2⟩
theorem dO.out {w w2 w3 : World} {X : Obj} {lo : Nat} {vo vo' vn vl u : Value} {k : Wa} {O N L : List (Value × Wa)} (h : dO w lo vo O vn N vl L) (hlo : lo ≤ w.heap.size) (hb : Below w.heap.size w w2) (hrow : bg w2 w.heap.size w2.heap.size u k.1)
 (hg : (w2.alloc X).grownBy w3 vo.ownBlock) (hloc : vo'.ownBlock = vo.ownBlock ∨ vo'.ownBlock = some (w2.heap.size + 1)) (hown : bU w3 lo vo' (O.map (·.1) ++ [u])) : dO w3 lo vo' (O ++ [(u, k)]) vn N vl L := by
 obtain ⟨⟨r1, r2, r3⟩, ⟨a1, a2⟩, ⟨a3, a4⟩⟩ := h; have hsz := hb.size; exact ⟨⟨r1.push hlo hb hrow hg hloc hown, r2.keep hb hg a1, r3.keep hb hg a2⟩, ⟨a1.self r2 (by omega) hloc, a2.self r3 (by omega) hloc⟩, ⟨a3.row r2.lt.1 hsz hrow hloc, a4⟩⟩
theorem dO.next {w w2 w3 : World} {X : Obj} {lo : Nat} {vo vn vn' vl u : Value} {k : Wa} {O N L : List (Value × Wa)} (h : dO w lo vo O vn N vl L) (hlo : lo ≤ w.heap.size) (hb : Below w.heap.size w w2) (hrow : bg w2 w.heap.size w2.heap.size u k.1)
 (hg : (w2.alloc X).grownBy w3 vn.ownBlock) (hloc : vn'.ownBlock = vn.ownBlock ∨ vn'.ownBlock = some (w2.heap.size + 1)) (hown : bU w3 lo vn' (N.map (·.1) ++ [u])) : dO w3 lo vo O vn' (N ++ [(u, k)]) vl L := by
 obtain ⟨⟨r1, r2, r3⟩, ⟨a1, a2⟩, ⟨a3, a4⟩⟩ := h; have hsz := hb.size; exact ⟨⟨r1.keep hb hg a3, r2.push hlo hb hrow hg hloc hown, r3.keep hb hg a4⟩, ⟨a1.row r1.lt.1 hsz hrow hloc, a2⟩, ⟨a3.self r1 (by omega) hloc, a4.self r3 (by omega) hloc⟩⟩
theorem dO.turn {w w' : World} {lo : Nat} {vo vl : Value} {O L : List (Value × Wa)} (h1 : fM w lo vo O) (h2 : fM w lo vl L) (h3 : jZ vo vl L) (hlo : lo ≤ w.heap.size) (hw' : w' = w.alloc (.cells #[] 33)) :
 dO w' lo vo O (.slice (some ⟨w.heap.size, 0, none⟩) 0 0) [] vl L := by
 have hb : Below w.heap.size w w' := by rw [hw']; exact (Below.refl _ _).alloc (nl _) _
 have hfresh : ∀ v P, fM w lo v P → jZ (.slice (some ⟨w.heap.size, 0, none⟩) 0 0) v P := fun v P hr => by
  refine ⟨fun b hb' e => ?_, fun p hp b hb' => ?_⟩
  · have hb2 : w.heap.size = b := (by simpa [Value.ownBlock] using hb'); have := hr.lt.1 _ e; omega
  · have := hr.lt.2 p hp b hb'; simp [Value.ownBlock]; omega
 have hn : fM w' lo (.slice (some ⟨w.heap.size, 0, none⟩) 0 0) [] := by
  rw [hw']; have hO := bU.lit w; refine ⟨?_, fun p hp => (List.not_mem_nil hp).elim, List.Pairwise.nil⟩
  obtain ⟨q1, q2 | ⟨g, cap, cur, q2, q3, q4⟩⟩ := hO
  · exact ⟨q1, .inl q2⟩
  · exact ⟨q1, .inr ⟨g, cap, cur, q2, by omega, q4⟩⟩
 refine ⟨⟨h1.below hb, hn, h2.below hb⟩, ⟨⟨fun b hb' => ?_, fun p hp => (List.not_mem_nil hp).elim⟩, h3⟩, ⟨hfresh _ _ h1, hfresh _ _ h2⟩⟩
 have := h1.lt.1 b hb'; simp [Value.ownBlock]; omega
def dn (w : World) (lo : Nat) (vo vn vt : Value) (LS : List Int) : Prop := bg w lo w.heap.size vt LS ∧ (∀ b, vo.ownBlock = some b → vt.ownBlock ≠ some b) ∧ (∀ b, vn.ownBlock = some b → vt.ownBlock ≠ some b)
theorem bg.lt {w : World} {lo hi : Nat} {v : Value} {zs : List Int} (h : bg w lo hi v zs) : ∀ b, v.ownBlock = some b → lo ≤ b ∧ b < hi := fun b hb => by
 rcases h.block with ⟨e1, _⟩ | ⟨c, e1, e2, e3, _⟩
 · rw [e1] at hb; cases hb
 · rw [e1] at hb; cases hb; exact ⟨e2, e3⟩
theorem bg.keep2 {w w' : World} {lo hi hi' : Nat} {v : Value} {zs : List Int} (h : bg w lo hi v zs) (hsz : hi ≤ hi') (hb : ∀ b, v.ownBlock = some b → b < hi → w'.heap[b]? = w.heap[b]?) : bg w' lo hi' v zs := by
 rcases h.block with ⟨e1, e2⟩ | ⟨c, e1, e2, e3, e4⟩
 · rw [e1, e2]; exact ⟨by simp, .inl ⟨rfl, rfl⟩⟩
 · exact (e4.keep fun k q1 q2 => by
    obtain rfl : k = c := by omega
    exact hb k e1 e3).wide e2 (by omega)
theorem dn.below {w w' : World} {lo : Nat} {vo vn vt : Value} {LS : List Int} (h : dn w lo vo vn vt LS) (hb : Below w.heap.size w w') : dn w' lo vo vn vt LS :=
 ⟨h.1.keep2 hb.size fun b _ hlt => hb.block b hlt, h.2⟩
theorem dn.grow {w w2 w3 : World} {X : Obj} {lo : Nat} {x vt : Value} {LS : List Int} (h : bg w lo w.heap.size vt LS) (hx : ∀ b, x.ownBlock = some b → vt.ownBlock ≠ some b) (hb : Below w.heap.size w w2) (hg : (w2.alloc X).grownBy w3 x.ownBlock) : bg w3 lo w3.heap.size vt LS := by
 have hsz : w2.heap.size + 1 ≤ w3.heap.size := by have := hg.size; simpa using this
 have hs2 := hb.size; refine h.keep2 (by omega) fun b hb' hlt => ?_
 rw [hg.block b (by simp; omega) (fun e => hx b e.symm hb'), heap_alloc_old _ _ (by omega), hb.block b hlt]
theorem dn.out {w w2 w3 : World} {X : Obj} {lo : Nat} {vo vo' vn vt : Value} {LS : List Int} (h : dn w lo vo vn vt LS) (hb : Below w.heap.size w w2) (hg : (w2.alloc X).grownBy w3 vo.ownBlock) (hloc : vo'.ownBlock = vo.ownBlock ∨ vo'.ownBlock = some (w2.heap.size + 1)) : dn w3 lo vo' vn vt LS := by
 refine ⟨dn.grow h.1 h.2.1 hb hg, fun b hb' e => ?_, h.2.2⟩
 have hlt := h.1.lt b e; have := hb.size
 rcases hloc with e2 | e2
 · exact h.2.1 b (by rw [← e2]; exact hb') e
 · rw [e2] at hb'; cases hb'; omega
theorem dn.next {w w2 w3 : World} {X : Obj} {lo : Nat} {vo vn vn' vt : Value} {LS : List Int} (h : dn w lo vo vn vt LS) (hb : Below w.heap.size w w2) (hg : (w2.alloc X).grownBy w3 vn.ownBlock) (hloc : vn'.ownBlock = vn.ownBlock ∨ vn'.ownBlock = some (w2.heap.size + 1)) : dn w3 lo vo vn' vt LS := by
 refine ⟨dn.grow h.1 h.2.2 hb hg, h.2.1, fun b hb' e => ?_⟩
 have hlt := h.1.lt b e; have := hb.size
 rcases hloc with e2 | e2
 · exact h.2.2 b (by rw [← e2]; exact hb') e
 · rw [e2] at hb'; cases hb'; omega
theorem dn.turn {w w' : World} {lo : Nat} {vo vn vt : Value} {LS : List Int} (h : dn w lo vo vn vt LS) (hw' : w' = w.alloc (.cells #[] 33)) : dn w' lo vo (.slice (some ⟨w.heap.size, 0, none⟩) 0 0) vt LS := by
 have hb : Below w.heap.size w w' := by rw [hw']; exact (Below.refl _ _).alloc (nl _) _
 refine ⟨(h.below hb).1, h.2.1, fun b hb' e => ?_⟩
 have h2 : w.heap.size = b := (by simpa [Value.ownBlock] using hb')
 have := (h.1.lt b e).2; omega
theorem iY {w0 : World} {o : Oper} {a : Act} {K : Act → World → Prop} {Q : Exit → Act → World → Prop} (s x : Operand)
 (ho : o.op = .call { callee := .builtin .append, args := #[s, x], argTypes := #[46, 46] }) (base : Nat) (v : Value) (us : List Value) (ua : Option Addr) (un uc : Nat)
 (hs : a.eval s = v) (hx : a.eval x = .slice (some ⟨w0.heap.size, 0, none⟩) 1 1) (hown : bU w0 base v us) (hl : us.length ≤ 1000000000) (hbase : base ≤ w0.heap.size)
 (h : ∀ v' w', bU w' base v' (us ++ [.slice ua un uc]) → (w0.alloc (.cells #[.slice ua un uc] 33)).grownBy w' v.ownBlock → (v'.ownBlock = v.ownBlock ∨ v'.ownBlock = some (w0.heap.size + 1)) → K (a.put o.dst v') w') :
 Oper.wp Tryz.prog o a (w0.alloc (.cells #[.slice ua un uc] 33)) K Q := by
 obtain ⟨i0, hi, hz0, hz1, hz2⟩ := info_parts GU; obtain ⟨v', w', hrun, h2, h3, h4, h5⟩ := run_append_own_at (P := Tryz.prog) (w0.alloc (.cells #[.slice ua un uc] 33)) base 46 o.type 33 i0 (.slice none 0 0) 1 24 Tryz.underlying46 hi hz0 hz1 hz2 rfl (by decide) v us.length us (World.ownsRow.alloc hown _) ⟨w0.heap.size, 0, none⟩ 1 1 [.slice ua un uc] rfl (cell_one_new _ _ _) (by
  intro u hu; simp at hu
  subst hu; rfl) (by unfold maxLen; omega) (by omega) (by simp; omega)
 unfold Oper.wp execOp; simp only [ho, resolve, invoke, builtin, Sem.run_bind, Sem.run_pure, Result.andThen_ok, List.map_toArray, List.map_cons, List.map_nil, hs, hx, hrun]; exact h v' w' (by unfold bU; simpa using h2) h3 (by simpa using h5)
theorem fM.done {w : World} {lo : Nat} {vo : Value} {O : List (Value × Wa)} (h : fM w lo vo O) (hl : O.length ≤ 1000000000) : iq w lo w.heap.size vo (O.map (·.1)) (O.map (·.2.1)) := by
 have hpw := List.pairwise_iff_getElem.1 h.2.2; refine bU.rowSS h.1 (nl _) (nl _) (by simp) (by simpa using hl) (fun i b hi hb => ?_) (fun i hi => ?_) (fun i j b hi hj hne hb => ?_)
 · rw [List.length_map] at hi
   rw [(nI hi).1] at hb; exact (h.2.1 _ (List.getElem_mem hi)).2 b hb
 · rw [List.length_map] at hi
   rw [(nI hi).1, (nI hi).2]; exact (h.2.1 _ (List.getElem_mem hi)).1
 · rw [List.length_map] at hi hj
   rw [(nI hi).1] at hb; rw [(nI hj).1]; intro hc
   rcases Nat.lt_or_ge i j with h | h
   · have := hpw i j hi hj h b b hb hc; omega
   · have := hpw j i hj hi (by omega) b b hc hb; omega
end Go.Proofs.YtgnomlcjikfdhaaGreat
namespace Go.Proofs.YtgnomlcjikfdhaaGreat
open Go.RowKit
set_option linter.unusedVariables false
set_option linter.unusedSimpArgs false
theorem dw {w0 : World} {o : Oper} {a : Act} {K : Act → World → Prop} {Q : Exit → Act → World → Prop} (s x : Operand)
 (ho : o.op = .call { callee := .builtin .append, args := #[s, x], argTypes := #[33, 33] }) (base : Nat) (v vx : Value) (zs ys : List Int) (B : Nat)
 (hs : a.eval s = v) (hx : a.eval x = vx) (hown : ak w0 base v zs) (hread : bD B w0 vx ys) (hl : zs.length + ys.length ≤ 1000000000) (hbase : base ≤ w0.heap.size)
 (h : ∀ v' w', ak w' base v' (zs ++ ys) → w0.grownBy w' v.ownBlock → (v'.ownBlock = v.ownBlock ∨ v'.ownBlock = some w0.heap.size) → K (a.put o.dst v') w') :
 Oper.wp Tryz.prog o a w0 K Q := by
 obtain ⟨i0, hi, hz0, hz1, hz2⟩ := info_parts jK; obtain ⟨_, ax, cap, rfl, ⟨hnil, _⟩, hr⟩ := hread
 rcases ax with _ | ad
 · have hy : ys = [] := by
    rcases hr with h0 | ⟨b, off, ha, _⟩
    · exact h0
    · cases ha
   subst hy; rw [hnil rfl] at hx; have hrun := run_append_owned_none (P := Tryz.prog) (w := w0) base 33 o.type 3 i0 1 Tryz.underlying33 hi v zs.length (zs.map iv) hown; unfold Oper.wp; simp [execOp, ho, resolve, invoke, builtin, hs, hx, hrun, Result.andThen]
   exact h v w0 (by rw [List.append_nil]; exact hown) ⟨rfl, rfl, rfl, nl _, fun _ _ _ => rfl⟩ (.inl rfl)
 · obtain ⟨v', w', hrun, h2, h3, h4, h5⟩ := run_append_own_at (P := Tryz.prog) w0 base 33 o.type 3 i0 (.int .i64 0) 1 8 Tryz.underlying33 hi hz0 hz1 hz2 rfl (by decide) v zs.length (zs.map iv) hown ad ys.length cap (ys.map iv) (by simp) (by
    intro j u hj; rw [List.getElem?_map] at hj; obtain ⟨y, hy, rfl⟩ := Option.map_eq_some_iff.1 hj; have hjl : j < ys.length := (List.getElem?_eq_some_iff.1 hy).1
    rcases hr with h0 | ⟨b, off, ha, hB, hc⟩
    · rw [h0] at hjl; simp at hjl
    · cases ha
      have hcj := hc j hjl; rw [gD, hy] at hcj; rw [iy]; simpa [iv] using hcj) (by
    intro u hu; obtain ⟨y, _, rfl⟩ := List.mem_map.1 hu; rfl) (by unfold maxLen; omega) (by omega) hbase
   unfold Oper.wp execOp; simp only [ho, resolve, invoke, builtin, Sem.run_bind, Sem.run_pure, Result.andThen_ok, List.map_toArray, List.map_cons, List.map_nil, hs, hx, hrun]; exact h v' w' (by unfold ak; simpa using h2) h3 h5
end Go.Proofs.YtgnomlcjikfdhaaGreat
