import Derived.Laws.OwnMore
import Derived.Deep.RegionWith
import Derived.Deep.LoopGhost
import Derived.Deep.RegionHeld
import Derived.StillTailTactics
import Derived.Lib.SmallJoins
import Derived.Deep.Slices
import Derived.ChangeSame
import Derived.OpenShut
import Derived.Test.YtgnomlcjikfdhaaGreatJ0Me
namespace Go.Proofs.YtgnomlcjikfdhaaGreat
open Go.RowKit
set_option linter.unusedVariables false
def jl (sz B : Nat) (w : World) (v : Value) (n : Nat) (zs : List Int) : Prop :=
 zs.length = n * sz ∧ n ≤ 4000000000000 ∧ ∃ a cap, v = .slice a n cap ∧ ((a = none → cap = 0) ∧ n ≤ cap) ∧ (n = 0 ∨ ∃ b off, a = some ⟨b, off, none⟩ ∧ b < B ∧ ∀ k, k < n * sz → w.cell? ⟨b, off + k, none⟩ = some (.int .i64 (zs.getD k 0)))
def aF (T : TypeId) (sz : Nat) (w : World) (lo hi : Nat) (v : Value) (n : Nat) (zs : List Int) : Prop :=
 zs.length = n * sz ∧ n ≤ 4000000000000 ∧ ((v = .slice none 0 0 ∧ n = 0) ∨
 ∃ g off cap cur, v = .slice (some ⟨g, off, none⟩) n cap ∧ lo ≤ g ∧ g < hi ∧ n ≤ cap ∧ w.heap[g]? = some (.cells cur T (0, 0)) ∧ (off = 0 ∧ cap ≤ maxLen ∧ cur.size = cap * sz) ∧ ∀ k, k < n * sz → cur[off + k]? = some (.int .i64 (zs.getD k 0)))
section
variable {T : TypeId} {sz n : Nat} {w w' : World} {v : Value} {zs : List Int}
theorem jl.below {B : Nat} (h : jl sz B w v n zs) (hb : Below B w w') : jl sz B w' v n zs := by
 obtain ⟨h0, hl, a, cap, hv, hnil, hc⟩ := h; refine ⟨h0, hl, a, cap, hv, hnil, hc.imp id ?_⟩; rintro ⟨b, off, ha, hB, hcell⟩; exact ⟨b, off, ha, hB, fun i hi => by rw [hb.cell (p := ⟨b, off + i, none⟩) hB]; exact hcell i hi⟩
theorem jl.mono {B B' : Nat} (h : jl sz B w v n zs) (hB : B ≤ B') : jl sz B' w v n zs := by
 obtain ⟨h0, hl, a, cap, hv, hnil, hc⟩ := h; refine ⟨h0, hl, a, cap, hv, hnil, hc.imp id ?_⟩; rintro ⟨b, off, ha, hb, hcell⟩; exact ⟨b, off, ha, by omega, hcell⟩
theorem jl.form {B : Nat} (h : jl sz B w v n zs) : ∃ a cap, v = .slice a n cap ∧ n ≤ cap := by
 obtain ⟨_, _, a, cap, hv, hc, _⟩ := h; exact ⟨a, cap, hv, hc.2⟩
theorem jl.at_ {B : Nat} {a : Option Addr} {m cap : Nat} (h : jl sz B w (.slice a m cap) n zs) (i : Nat) (hi : i < n) :
 ∃ b off, a = some ⟨b, off, none⟩ ∧ b < B ∧ ∀ j, j < sz → w.cell? ⟨b, off + i * sz + j, none⟩ = some (.int .i64 (zs.getD (i * sz + j) 0)) := by
 obtain ⟨_, _, a', cap', hv, _, hr⟩ := h; simp only [Value.slice.injEq] at hv; obtain ⟨rfl, _, rfl⟩ := hv
 rcases hr with h0 | ⟨b, off, ha, hB, hc⟩
 · omega
 · refine ⟨b, off, ha, hB, fun j hj => ?_⟩
   have h1 : (i + 1) * sz ≤ n * sz := Nat.mul_le_mul_right _ hi; rw [Nat.add_mul] at h1; rw [Nat.add_assoc]; exact hc (i * sz + j) (by omega)
theorem jl.len {B : Nat} {a : Option Addr} {m cap : Nat} (h : jl sz B w (.slice a m cap) n zs) : m = n := by
 obtain ⟨_, _, a', cap', hv, _⟩ := h; simp only [Value.slice.injEq] at hv; exact hv.2.1
theorem aF.read {lo hi : Nat} (h : aF T sz w lo hi v n zs) : jl sz hi w v n zs := by
 obtain ⟨h0, hl, ⟨rfl, rfl⟩ | ⟨g, off, cap, cur, rfl, hlo, hhi, hcap, hh, hc⟩⟩ := h
 · exact ⟨h0, hl, none, 0, rfl, ⟨fun _ => rfl, Nat.le_refl _⟩, .inl rfl⟩
 · refine ⟨h0, hl, _, _, rfl, ⟨(fun e => by cases e), hcap⟩, .inr ⟨g, off, rfl, hhi, fun i hi => ?_⟩⟩
   simp only [World.cell?, hh]; simpa using hc.2 i hi
theorem aF.keep {lo hi : Nat} (h : aF T sz w lo hi v n zs) (hb : ∀ k, lo ≤ k → k < hi → w'.heap[k]? = w.heap[k]?) : aF T sz w' lo hi v n zs := by
 obtain ⟨h0, hl, h1 | ⟨g, off, cap, cur, hv, hlo, hhi, hcap, hh, hc⟩⟩ := h
 · exact ⟨h0, hl, .inl h1⟩
 · exact ⟨h0, hl, .inr ⟨g, off, cap, cur, hv, hlo, hhi, hcap, by rw [hb g hlo hhi]; exact hh, hc⟩⟩
theorem aF.below {lo hi B : Nat} (h : aF T sz w lo hi v n zs) (hb : Below B w w') (hB : hi ≤ B) : aF T sz w' lo hi v n zs :=
 h.keep (fun k _ hk => hb.block k (by omega))
theorem aF.wide {lo hi lo' hi' : Nat} (h : aF T sz w lo hi v n zs) (h1 : lo' ≤ lo) (h2 : hi ≤ hi') : aF T sz w lo' hi' v n zs := by
 obtain ⟨h0, hl, h3 | ⟨g, off, cap, cur, hv, hlo, hhi, hcap, hh, hc⟩⟩ := h
 · exact ⟨h0, hl, .inl h3⟩
 · exact ⟨h0, hl, .inr ⟨g, off, cap, cur, hv, by omega, by omega, hcap, hh, hc⟩⟩
theorem aF.only {lo hi lo' hi' : Nat} (h : aF T sz w lo hi v n zs) (ho : Only lo' hi' w w') (hd : hi ≤ lo' ∨ hi' ≤ lo) : aF T sz w' lo hi v n zs :=
 h.keep (fun k h1 h2 => ho.block k (by omega))
theorem aF.stored {lo hi g off m cap : Nat} (h : aF T sz w lo hi (.slice (some ⟨g, off, none⟩) m cap) n zs) (i : Nat) (z : Int) :
 aF T sz (w.setCell ⟨g, off + i, none⟩ (.int .i64 z)) lo hi (.slice (some ⟨g, off, none⟩) m cap) n (zs.set i z) := by
 obtain ⟨h0, hl, ⟨h1, _⟩ | ⟨g', off', cap', cur, hv, hlo, hhi, hcap, hh, hc⟩⟩ := h
 · cases h1
 · simp only [Value.slice.injEq, Option.some.injEq, Addr.mk.injEq, and_true] at hv
   obtain ⟨⟨rfl, rfl⟩, rfl, rfl⟩ := hv; refine ⟨by simpa using h0, hl, .inr ⟨g, off, cap, cur.setIfInBounds (off + i) (.int .i64 z), rfl, hlo, hhi, hcap, heap_setCell_same w g (off + i) cur _ _ hh, ⟨hc.1.1, hc.1.2.1, by simpa using hc.1.2.2⟩, fun j hj => ?_⟩⟩
   by_cases hji : j = i
   · subst hji
     have hlt : off + j < cur.size := (Array.getElem?_eq_some_iff.1 (hc.2 j hj)).1; rw [Array.getElem?_setIfInBounds_self_of_lt hlt]; simp [List.getD_eq_getElem?_getD, show j < zs.length by omega]
   · rw [Array.getElem?_setIfInBounds_ne (by omega), hc.2 j hj]
     simp [List.getD_eq_getElem?_getD, show ¬ i = j by omega]
theorem aF.cap {lo hi m c : Nat} {a : Option Addr} (h : aF T sz w lo hi (.slice a m c) n zs) : m = n ∧ n ≤ c := by
 obtain ⟨h0, hl, ⟨h1, h2⟩ | ⟨g', off', cap', cur, hv, hlo, hhi, hcap, hh, hc⟩⟩ := h
 · cases h1; omega
 · simp only [Value.slice.injEq] at hv
   obtain ⟨_, rfl, rfl⟩ := hv; exact ⟨rfl, hcap⟩
theorem aF.form {lo hi : Nat} (h : aF T sz w lo hi v n zs) (h0 : 0 < n) : ∃ g off cap, v = .slice (some ⟨g, off, none⟩) n cap ∧ lo ≤ g ∧ g < hi := by
 obtain ⟨_, hl, ⟨_, h2⟩ | ⟨g, off, cap, cur, hv, hlo, hhi, hcap, hh, hc⟩⟩ := h
 · omega
 · exact ⟨g, off, cap, hv, hlo, hhi⟩
def bG (T : TypeId) (sz : Nat) (w : World) (base : Nat) (v : Value) (n : Nat) (zs : List Int) : Prop := w.ownsRow base T sz v n (zs.map iv)
theorem bG.row {base : Nat} (h : bG T sz w base v n zs) (hl : n ≤ 4000000000000) : aF T sz w base w.heap.size v n zs := by
 have hlt := World.ownsRow.lt h; obtain ⟨hlen, ⟨rfl, hn⟩ | ⟨g, cap, cur, rfl, hg, hh, hcap, hmax, hsz, htk⟩⟩ := h
 · exact ⟨by simpa using hlen, hl, .inl ⟨rfl, hn⟩⟩
 · rw [List.length_map] at hlen
   refine ⟨hlen, hl, .inr ⟨g, 0, cap, cur, rfl, hg, (hlt g rfl).2, hcap, hh, ⟨rfl, hmax, hsz⟩, fun i hi => ?_⟩⟩
   have h1 : (zs.map iv)[i]? = some (iv (zs.getD i 0)) := by simp [show i < zs.length by omega]
   rw [← htk, List.getElem?_take, if_pos hi] at h1; rw [Nat.zero_add, ← Array.getElem?_toList]; exact h1
theorem aF.owns {lo hi : Nat} (h : aF T sz w lo hi v n zs) : bG T sz w lo v n zs := by
 obtain ⟨h0, hl, ⟨rfl, rfl⟩ | ⟨g, off, cap, cur, rfl, hlo, hhi, hcap, hh, ⟨rfl, hmax, hsz⟩, hc⟩⟩ := h
 · exact ⟨by simpa using h0, .inl ⟨rfl, rfl⟩⟩
 · refine ⟨by rw [List.length_map]; exact h0, .inr ⟨g, cap, cur, rfl, hlo, hh, hcap, hmax, hsz, ?_⟩⟩
   have hm : n * sz ≤ cap * sz := Nat.mul_le_mul_right _ hcap; apply List.ext_getElem?
   intro i; rw [List.getElem?_take, List.getElem?_map]; by_cases hi : i < n * sz
   · have h1 := hc i hi
     rw [Nat.zero_add] at h1; rw [if_pos hi, Array.getElem?_toList, h1, List.getElem?_eq_getElem (show i < zs.length by omega), List.getD_eq_getElem?_getD, List.getElem?_eq_getElem (show i < zs.length by omega)]
     rfl
   · rw [if_neg hi, List.getElem?_eq_none (by omega)]; rfl
theorem bG.drewN {base : Nat} (h : bG T sz w base v n zs) (k : Nat) : bG T sz (w.drewN k) base v n zs := h
theorem bG.mono {base base' : Nat} (h : bG T sz w base v n zs) (hb : base' ≤ base) : bG T sz w base' v n zs := by
 obtain ⟨h1, h2⟩ := h; refine ⟨h1, h2.imp id ?_⟩; rintro ⟨g, cap, cur, a, b, c⟩; exact ⟨g, cap, cur, a, by omega, c⟩
theorem bG.later {base B : Nat} (h : bG T sz w base v n zs) (hb : Below B w w') (hB : w.heap.size ≤ B) : bG T sz w' base v n zs := by
 have hlt := World.ownsRow.lt h; obtain ⟨hlen, ⟨rfl, hn⟩ | ⟨g, cap, cur, rfl, hg, hh, hr⟩⟩ := h
 · exact ⟨hlen, .inl ⟨rfl, hn⟩⟩
 · refine ⟨hlen, .inr ⟨g, cap, cur, rfl, hg, ?_, hr⟩⟩
   rw [hb.block g (by have := (hlt g rfl).2; omega)]
   exact hh
theorem bG.put {base g cap : Nat} (h : bG T sz w base (.slice (some ⟨g, 0, none⟩) n cap) n zs) (j : Nat) (z : Int) : bG T sz (w.setCell ⟨g, j, none⟩ (.int .i64 z)) base (.slice (some ⟨g, 0, none⟩) n cap) n (zs.set j z) := by
 have := (World.ownsRow.stored h j (iv z)).1; rw [← List.map_set] at this; exact this
theorem bG.cell {base g cap : Nat} (h : bG T sz w base (.slice (some ⟨g, 0, none⟩) n cap) n zs) (j : Nat) (hj : j < n * sz) : ∃ v, w.cell? ⟨g, j, none⟩ = some v := by
 rw [World.ownsRow.cellAt h j hj]; have := h.1; rw [List.length_map] at this; exact ⟨_, List.getElem?_eq_getElem (by rw [List.length_map]; omega)⟩
theorem bG.frozen {base g cap : Nat} (h : bG T sz w base (.slice (some ⟨g, 0, none⟩) n cap) n zs) (j : Nat) : w.frozen? ⟨g, j, none⟩ = false := World.ownsRow.frozenAt h j
theorem bG.lit (w : World) : bG T sz (w.alloc (.cells #[] T)) w.heap.size (.slice (some ⟨w.heap.size, 0, none⟩) 0 0) 0 [] := World.ownsRow_lit w #[] 0 (Nat.le_refl _) (Nat.zero_le _) (by simp)
theorem bG.nil (w : World) (base : Nat) : bG T sz w base (.slice none 0 0) 0 [] := World.ownsRow_nil _ _ _ _
theorem bG.form3 {base : Nat} (h : bG T sz w base v n zs) : ∃ a m c, v = .slice a m c := by
 obtain ⟨hlen, ⟨rfl, hn⟩ | ⟨g, cap, cur, rfl, hg, hh, hcap, hmax, hsz, htk⟩⟩ := h
 · exact ⟨_, _, _, rfl⟩
 · exact ⟨_, _, _, rfl⟩
end
theorem oN : (Tryz.prog.info? 36).map (fun i => (i.zero, i.size, i.bytes)) = some (some (.agg #[.int .i64 0, .int .i64 0, .int .i64 0]), 3, 24) := by kernel_rfl
theorem dM {fn : Func} {p : Tmp} {ty : TypeId} {fs : Array Field} (h : fn.results = #[.cell p ty]) {tmps : Array Value} {w : World} {g : Nat} {t : TypeId} {cs : Array Value} {fr : Nat × Nat} {R : Ending → World → Prop}
 (hp : tmps.getD p undef = .pointer (some ⟨g, 0, none⟩)) (hg : w.heap[g]? = some (.cells cs t fr))
 (hu : Tryz.prog.underlying ty = some (.struct fs)) (hi : (Tryz.prog.info? ty).map (·.size) = some cs.size) (hr : R (.returned (.agg cs)) w) :
 bodyPost Tryz.prog fn R .ret { tmps := tmps, defers := [] } w :=
 bodyPost_ret (results_cell_row h tmps w g t cs fr _ hp hg hu rfl hi) rfl hr
theorem II (w : World) (A B C : Obj) : (((w.alloc A).alloc B).alloc C).heap[w.heap.size + 1]? = some B := by
 have h : (((w.alloc A).alloc B).alloc C).heap[w.heap.size + 1]? = ((w.alloc A).alloc B).heap[w.heap.size + 1]? := heap_alloc_old _ _ (by simp)
 rw [h]; have := heap_alloc_new (w.alloc A) B; simpa using this
def Ak (w : World) (n : Nat) (zs : List Int) (e : Ending) (w' : World) : Prop :=
 ∃ v, e = .returned v ∧ aF 36 3 w' w.heap.size w'.heap.size v n zs ∧ Below w.heap.size w w'
set_option linter.unusedSimpArgs false
theorem cell_of_heap {w : World} {g : Nat} {cs : Array Value} {T : TypeId} {fr : Nat × Nat} (h : w.heap[g]? = some (.cells cs T fr)) (j : Nat) : w.cell? ⟨g, j, none⟩ = cs[j]? := by simp [World.cell?, h]
theorem ag {α : Sort _} (a : α) : ∃ z, z = a := ⟨a, rfl⟩
theorem nl (n : Nat) : n ≤ n := Nat.le_refl n
theorem gD {α : Type _} {l : List α} {i : Nat} {a : α} : l.getD i a = (l[i]?).getD a := List.getD_eq_getElem?_getD
theorem gE {α : Type _} {l : List α} {i : Nat} (h : i < l.length) : l[i]? = some l[i] := List.getElem?_eq_getElem h
theorem ah {w : World} {g : Nat} {cs : Array Value} {T : TypeId} {fr : Nat × Nat} (h : w.heap[g]? = some (.cells cs T fr)) : w.cell? ⟨g, 0, none⟩ = cs[0]? ∧ w.cell? ⟨g, 1, none⟩ = cs[1]? ∧ w.cell? ⟨g, 2, none⟩ = cs[2]? := ⟨cell_of_heap h 0, cell_of_heap h 1, cell_of_heap h 2⟩
theorem aJ {α : Type _} (l : List α) (i : Nat) (a : α) : l.toArray.setIfInBounds i a = (l.set i a).toArray := by simp
theorem aH {α : Type _} (x : α) (l : List α) (a : α) : (x :: l).set 0 a = a :: l := rfl
theorem aI {α : Type _} (x : α) (l : List α) (i : Nat) (a : α) : (x :: l).set (i + 1) a = x :: l.set i a := rfl
theorem dH (w : World) (A B : Obj) : ((w.alloc A).alloc B).heap[w.heap.size]? = some A := by
 have h : ((w.alloc A).alloc B).heap[w.heap.size]? = (w.alloc A).heap[w.heap.size]? := heap_alloc_old _ _ (by simp)
 rw [h]; exact heap_alloc_new w A
theorem bV {P : Program} {c : Code} {Q : Exit → Act → World → Prop} {a : Act} {w : World} (hp : ∀ (ch : List PanicEntry) (a : Act) (d : Option Tmp) (v : Value) (w : World), Q (.panic ch) (a.put d v) w → Q (.panic ch) a w)
 (h : ∀ Q' : Exit → Act → World → Prop, (∀ a w, Q .normal a w → Q' .normal a w) → (∀ (ch : List PanicEntry) (a : Act) (d : Option Tmp) (v : Value) (w : World), Q' (.panic ch) (a.put d v) w → Q' (.panic ch) a w) → c.wp P Q' a w) : c.wp P Q a w :=
 h Q (fun _ _ h => h) hp
theorem take_at {P : Program} {ops : Array Oper} {Q : Exit → Act → World → Prop} {md : Region.Mode} {S : World → Prop} (i : Nat) (t : Tmp) {oi : Oper} {v : Value} {fuel : Nat} {listed : Array Bool} {a : Act} {w : World} (hi : ops[i]? = some oi) (hd : oi.dst = some t)
 (hs : Region.noSelect ops = true) (hf : Region.free md ops listed i = true) (hr : (Region.ready md ops listed).contains i = true)
 (hQ : ∀ (ch : List PanicEntry) (a : Act) (d : Option Tmp) (v : Value) (w : World), Q (.panic ch) (a.put d v) w → Q (.panic ch) a w) (hy : YieldsIf P ops S oi v a) (hS : S w)
 (h : wpAnyH P md ops Q S fuel (listed.setIfInBounds i true) (a.put (some t) v) w) : wpAnyH P md ops Q S (fuel + 1) listed a w :=
 wpAnyH_take hi hs hf hr (fun _ _ _ h => hQ _ _ _ _ _ h) hy hS (by rw [hd]; exact h)
theorem tk {P : Program} {ops : Array Oper} {Q : Exit → Act → World → Prop} {md : Region.Mode} {S : World → Prop} (i : Nat) (t : Tmp) {oi : Oper} {v : Value} {fuel : Nat} {listed : Array Bool} {a a' : Act} {w : World}
 (h : wpAnyH P md ops Q S fuel (listed.setIfInBounds i true) a' w)
 (hi : ops[i]? = some oi := by rfl) (hd : oi.dst = some t := by kernel_rfl)
 (hs : Region.noSelect ops = true := by kernel_rfl) (hf : Region.free md ops listed i = true := by kernel_rfl) (hr : (Region.ready md ops listed).contains i = true := by kernel_rfl)
 (hQ : ∀ (ch : List PanicEntry) (a : Act) (d : Option Tmp) (v : Value) (w : World), Q (.panic ch) (a.put d v) w → Q (.panic ch) a w := by assumption)
 (hy : YieldsIf P ops S oi v a := by exact Or.inl ⟨by rfl, by intro w hSw; (try dsimp only at hSw); go_simp; with_reducible rfl⟩) (hS : S w := by assumption)
 (hp : a.put (some t) v = a' := by simp only [Act.put, List.setIfInBounds_toArray, List.set_cons_zero, List.set_cons_succ]; with_reducible rfl) : wpAnyH P md ops Q S (fuel + 1) listed a w :=
 take_at i t hi hd hs hf hr hQ hy hS (by rw [hp]; exact h)
theorem tg {P : Program} {ops : Array Oper} {Q : Exit → Act → World → Prop} {md : Region.Mode} {S : World → Prop} (i : Nat) (t : Tmp) {oi : Oper} {v : Value} {fuel : Nat} {listed : Array Bool} {a a' : Act} {w : World}
 (h : wpAnyH P md ops Q S fuel (listed.setIfInBounds i true) a' w)
 (hi : ops[i]? = some oi := by rfl) (hd : oi.dst = some t := by kernel_rfl)
 (hs : Region.noSelect ops = true := by kernel_rfl) (hf : Region.free md ops listed i = true := by kernel_rfl) (hr : (Region.ready md ops listed).contains i = true := by kernel_rfl)
 (hQ : ∀ (ch : List PanicEntry) (a : Act) (d : Option Tmp) (v : Value) (w : World), Q (.panic ch) (a.put d v) w → Q (.panic ch) a w := by assumption)
 (hy : YieldsIf P ops S oi v a := by exact Or.inl ⟨by kernel_rfl, by intro w hSw; (try dsimp only at hSw); go_simp; with_reducible rfl⟩) (hS : S w := by assumption)
 (hp : a.put (some t) v = a' := by simp only [Act.put, List.setIfInBounds_toArray, List.set_cons_zero, List.set_cons_succ]; with_reducible rfl) : wpAnyH P md ops Q S (fuel + 1) listed a w :=
 take_at i t hi hd hs hf hr hQ hy hS (by rw [hp]; exact h)
theorem tn {P : Program} {ops : Array Oper} {Q : Exit → Act → World → Prop} {md : Region.Mode} {S : World → Prop} (i : Nat) (t : Tmp) {oi : Oper} {fuel : Nat} {listed : Array Bool} {a a' : Act} {w : World}
 (h : wpAnyH P md ops Q S fuel (listed.setIfInBounds i true) a' w)
 (hi : ops[i]? = some oi := by rfl) (hd : oi.dst = some t := by kernel_rfl)
 (hs : Region.noSelect ops = true := by kernel_rfl) (hf : Region.free md ops listed i = true := by kernel_rfl) (hr : (Region.ready md ops listed).contains i = true := by kernel_rfl)
 (hQ : ∀ (ch : List PanicEntry) (a : Act) (d : Option Tmp) (v : Value) (w : World), Q (.panic ch) (a.put d v) w → Q (.panic ch) a w := by assumption)
 (hy : YieldsIf P ops S oi undef a := by exact Or.inr ⟨by kernel_rfl, rfl⟩) (hS : S w := by assumption)
 (hp : a.put (some t) undef = a' := by simp only [Act.put, List.setIfInBounds_toArray, List.set_cons_zero, List.set_cons_succ]; with_reducible rfl) : wpAnyH P md ops Q S (fuel + 1) listed a w :=
 take_at i t hi hd hs hf hr hQ hy hS (by rw [hp]; exact h)
theorem rd {P : Program} {md : Region.Mode} {ops : Array Oper} {Q : Exit → Act → World → Prop} {S : World → Prop} {fuel : Nat} {listed : Array Bool} {a : Act} {w : World} (i : Nat) {o : Oper}
 (h : ∀ K' : Act → World → Prop, Shut (∀ a w, S w → (S w → wpAnyH P md ops Q S fuel (listed.setIfInBounds i true) a w) → K' a w) → if Region.wanted o (yielded ops a.tmps) = true then Oper.wp P o a w K' Q else K' (a.put o.dst undef) w)
 (hr : Region.ready md ops listed = [i] := by kernel_rfl) (ho : ops[i]? = some o := by rfl) : wpAnyH P md ops Q S (fuel + 1) listed a w :=
 wpAnyH_ready hr (by simp) (AllReadyH.cons ho h AllReadyH.nil)
theorem iE (w : World) (x lo hi : Int) : Calls Tryz.prog 63 #[.int .i64 x, .int .i64 lo, .int .i64 hi] w fun e w' => e = .returned (.bool (decide (lo ≤ x ∧ x ≤ hi))) ∧ w = w' := by
 obtain ⟨b, hb⟩ : ∃ b, b = decide (lo ≤ x ∧ x ≤ hi) := ⟨_, rfl⟩; rw [← hb]; by_cases h1 : lo ≤ x
 · have g1 : x ≥ lo := h1
   by_cases h2 : x ≤ hi
   · have hbb : b = true := by rw [hb, decide_eq_true_eq]; exact ⟨h1, h2⟩
     have d1 : decide (lo ≤ x) = true := by simp [h1]
     have d2 : decide (x ≤ hi) = true := by simp [h2]
     replace hb := ae hb; replace hbb := ae hbb; go_enter Tryz.func63, Tryz.ntmps63
     go_wp2; go_ret; exact ⟨au hbb.out.symm, rfl⟩
   · have hbb : b = false := by rw [hb, decide_eq_false_iff_not]; exact fun h => h2 h.2
     have d1 : decide (lo ≤ x) = true := by simp [h1]
     have d2 : decide (x ≤ hi) = false := by simp; omega
     replace hb := ae hb; replace hbb := ae hbb; go_enter Tryz.func63, Tryz.ntmps63
     go_wp2; go_ret; exact ⟨au hbb.out.symm, rfl⟩
 · have hbb : b = false := by rw [hb, decide_eq_false_iff_not]; exact fun h => h1 h.1
   have d1 : decide (lo ≤ x) = false := by simp; omega
   replace hb := ae hb; replace hbb := ae hbb; go_enter Tryz.func63, Tryz.ntmps63
   go_wp2; go_ret; exact ⟨au hbb.out.symm, rfl⟩
theorem bT {w w1 : World} {x0 x1 x2 : Value} {T : TypeId} (hw1 : w1 = w.alloc (.cells #[x0, x1, x2] T)) : w1.cell? ⟨w.heap.size, 0, none⟩ = some x0 ∧ w1.cell? ⟨w.heap.size, 1, none⟩ = some x1 ∧ w1.cell? ⟨w.heap.size, 2, none⟩ = some x2 := by
 have h := heap_alloc_new w (.cells #[x0, x1, x2] T); rw [← hw1] at h; exact ⟨by simpa using cell_of_heap h 0, by simpa using cell_of_heap h 1, by simpa using cell_of_heap h 2⟩
theorem af {w w' : World} {B b j : Nat} {v : Value} (h : w.cell? ⟨b, j, none⟩ = some v) (hb : Below B w w') (hl : b < B) : w'.cell? ⟨b, j, none⟩ = some v := (hb.cell (p := (⟨b, j, none⟩ : Addr)) hl).trans h
theorem iy (b off j : Nat) : (⟨b, off, none⟩ : Addr).add j = ⟨b, off + j, none⟩ := by
 by_cases h : j = 0
 · subst h; simp [Addr.add]
 · simp [Addr.add, h]
theorem Only.cell {lo hi : Nat} {w w' : World} (h : Only lo hi w w') {p : Addr} (hp : p.block < lo ∨ hi ≤ p.block) : w'.cell? p = w.cell? p := World.cell?_of_block (h.block p.block hp)
theorem H5 (w : World) (r : Int) : Calls Tryz.prog 110 #[.int .i64 r] w fun e w' => e = .returned (.bool (decide (1 ≤ r ∧ r ≤ 3))) ∧ w = w' := by
 obtain ⟨b, hb⟩ : ∃ b, b = decide (1 ≤ r ∧ r ≤ 3) := ⟨_, rfl⟩; rw [← hb]; by_cases h1 : 1 ≤ r
 · have d1 : decide (1 ≤ r) = true := by simp [h1]
   by_cases h2 : r ≤ 3
   · have hbb : b = true := by rw [hb, decide_eq_true_eq]; exact ⟨h1, h2⟩
     have d2 : decide (r ≤ 3) = true := by simp [h2]
     replace hb := ae hb; replace hbb := ae hbb; go_enter Tryz.func110, Tryz.ntmps110
     go_wp2; go_ret; exact ⟨au hbb.out.symm, rfl⟩
   · have hbb : b = false := by rw [hb, decide_eq_false_iff_not]; exact fun h => h2 h.2
     have d2 : decide (r ≤ 3) = false := by simp; omega
     replace hb := ae hb; replace hbb := ae hbb; go_enter Tryz.func110, Tryz.ntmps110
     go_wp2; go_ret; exact ⟨au hbb.out.symm, rfl⟩
 · have hbb : b = false := by rw [hb, decide_eq_false_iff_not]; exact fun h => h1 h.1
   have d1 : decide (1 ≤ r) = false := by simp; omega
   replace hb := ae hb; replace hbb := ae hbb; go_enter Tryz.func110, Tryz.ntmps110
   go_wp2; go_ret; exact ⟨au hbb.out.symm, rfl⟩
theorem Ak.form {w w' : World} {n : Nat} {zs : List Int} {e : Ending} (h : Ak w n zs e w') : ∃ a cap, e = .returned (.slice a n cap) ∧ aF 36 3 w' w.heap.size w'.heap.size (.slice a n cap) n zs ∧ Below w.heap.size w w' := by
 obtain ⟨v, rfl, hr, hb⟩ := h; obtain ⟨a, cap, rfl, _⟩ := hr.read.form; exact ⟨a, cap, rfl, hr, hb⟩
theorem aB : (Tryz.prog.info? 26).map (·.size) = some 3 := by kernel_rfl
theorem set3 {w : World} {g : Nat} {T : TypeId} {x0 x1 x2 : Value} (h : w.heap[g]? = some (.cells #[x0, x1, x2] T (0, 0))) (v0 v1 v2 : Value) :
 (((w.setCell ⟨g, 0, none⟩ v0).setCell ⟨g, 1, none⟩ v1).setCell ⟨g, 2, none⟩ v2).heap[g]? = some (.cells #[v0, v1, v2] T (0, 0)) := by
 have h3 := heap_setCell_same _ g 2 _ T v2 (heap_setCell_same _ g 1 _ T v1 (heap_setCell_same w g 0 _ T v0 h)); simpa using h3
open Go.RowKit Go.ChangeShapes Go.WideShapes Go.Deep
set_option maxRecDepth 100000
abbrev Ed := Int × Int × Int
def e0 : Ed := (0, 0, 0)
def aC : List Ed → List Int
 | [] => []
 | e :: es => e.1 :: e.2.1 :: e.2.2 :: aC es
theorem jD : ∀ es : List Ed, (aC es).length = es.length * 3 := by
 intro es
 induction es with
 | nil => rfl
 | cons e es ih => simp only [aC, List.length_cons, ih]; omega
theorem jo (a b : List Ed) : aC (a ++ b) = aC a ++ aC b := by
 induction a with
 | nil => rfl
 | cons e a ih => simp only [List.cons_append, aC, ih]
theorem qX : ∀ (es : List Ed) (i : Nat), i < es.length → (aC es).getD (i * 3) 0 = (es.getD i e0).1 ∧ (aC es).getD (i * 3 + 1) 0 = (es.getD i e0).2.1 ∧ (aC es).getD (i * 3 + 2) 0 = (es.getD i e0).2.2 := by
 intro es
 induction es with
 | nil => intro i h; simp at h
 | cons e es ih =>
  intro i h
  cases i with
  | zero => simp [aC]
  | succ i =>
   have := ih i (by simpa using h)
   rw [show (i + 1) * 3 = i * 3 + 1 + 1 + 1 by omega]
   simpa [aC] using this
def zA (es : List Ed) : Prop := ∀ e ∈ es, (-9223372036854775808 ≤ e.1 ∧ e.1 ≤ 9223372036854775807) ∧ (-9223372036854775808 ≤ e.2.1 ∧ e.2.1 ≤ 9223372036854775807) ∧ (-9223372036854775808 ≤ e.2.2 ∧ e.2.2 ≤ 9223372036854775807)
theorem zA.at_ {es : List Ed} (h : zA es) {i : Nat} (hi : i < es.length) : (-9223372036854775808 ≤ (es.getD i e0).1 ∧ (es.getD i e0).1 ≤ 9223372036854775807) ∧ (-9223372036854775808 ≤ (es.getD i e0).2.1 ∧ (es.getD i e0).2.1 ≤ 9223372036854775807) ∧ (-9223372036854775808 ≤ (es.getD i e0).2.2 ∧ (es.getD i e0).2.2 ≤ 9223372036854775807) := by
 apply h
 rw [List.getD_eq_getElem?_getD, List.getElem?_eq_getElem hi]; exact List.getElem_mem hi
abbrev ay (B : Nat) (w : World) (v : Value) (es : List Ed) : Prop := jl 3 B w v es.length (aC es)
theorem ay.at3 {B : Nat} {w : World} {a : Option Addr} {n cap : Nat} {es : List Ed} (h : ay B w (.slice a n cap) es) (i : Nat) (hi : i < es.length) :
 ∃ b off, a = some ⟨b, off, none⟩ ∧ b < B ∧ w.cell? ⟨b, off + i * 3, none⟩ = some (.int .i64 (es.getD i e0).1) ∧ w.cell? ⟨b, off + i * 3 + 1, none⟩ = some (.int .i64 (es.getD i e0).2.1) ∧ w.cell? ⟨b, off + i * 3 + 2, none⟩ = some (.int .i64 (es.getD i e0).2.2) := by
 obtain ⟨b, off, ha, hB, hc⟩ := h.at_ i hi; obtain ⟨h0, h1, h2⟩ := qX es i hi; have c0 := hc 0 (by omega)
 rw [Nat.add_zero, Nat.add_zero, h0] at c0; have c1 := hc 1 (by omega)
 rw [h1] at c1; have c2 := hc 2 (by omega)
 rw [h2] at c2; exact ⟨b, off, ha, hB, c0, c1, c2⟩
def xI (w : World) (a : Option Addr) (len cap : Nat) (es : List Ed) : Prop :=
 (a = none ∧ len = 0 ∧ cap = 0 ∧ es = []) ∨ ∃ x, a = some x ∧ len ≤ cap ∧ cap ≤ maxLen ∧ es.length = len ∧ zA es ∧
  ∀ i, i < len → w.cell? (x.add (i * 3)) = some (.int .i64 (es.getD i e0).1) ∧ w.cell? (x.add (i * 3 + 1)) = some (.int .i64 (es.getD i e0).2.1) ∧ w.cell? (x.add (i * 3 + 2)) = some (.int .i64 (es.getD i e0).2.2)
theorem xI.len {w : World} {a : Option Addr} {len cap : Nat} {es : List Ed} (h : xI w a len cap es) : es.length = len ∧ zA es ∧ (len : Int) ≤ 9223372036854775807 := by
 rcases h with ⟨_, rfl, _, rfl⟩ | ⟨x, _, h1, h2, h3, h4, _⟩
 · exact ⟨rfl, (fun e h => by cases h), by omega⟩
 · exact ⟨h3, h4, by unfold maxLen at h2; omega⟩
theorem xI.read {w : World} {a : Option Addr} {len cap : Nat} {es : List Ed} (h : xI w a len cap es) (hl : len ≤ 1048576) : ay w.heap.size w (.slice a len cap) es := by
 rcases h with ⟨rfl, rfl, rfl, rfl⟩ | ⟨x, rfl, h1, h2, h3, h4, hc⟩
 · exact ⟨rfl, by simp, none, 0, rfl, ⟨fun _ => rfl, Nat.le_refl _⟩, .inl rfl⟩
 · refine ⟨jD es, by omega, some x, cap, by rw [h3], ⟨(fun e => by cases e), by omega⟩, ?_⟩
   rcases Nat.eq_zero_or_pos len with h0 | h0
   · left; omega
   · right
     have c0 := (hc 0 h0).1; obtain ⟨b, off, spot⟩ := x; have hspot : spot = none := by simpa [Addr.add] using World.cell?_spot c0
     subst hspot; refine ⟨b, off, rfl, ?_, fun k hk => ?_⟩
     · have c0' : w.cell? ⟨b, off, none⟩ = some (.int .i64 (es.getD 0 e0).1) := by simpa [Addr.add] using c0
       rcases Nat.lt_or_ge b w.heap.size with h1 | h1
       · exact h1
       · unfold World.cell? at c0'
         rw [show w.heap[(⟨b, off, none⟩ : Addr).block]? = none from Array.getElem?_eq_none h1] at c0'
         cases c0'
     · obtain ⟨i, j, hj, rfl⟩ : ∃ i j, j < 3 ∧ k = i * 3 + j := ⟨k / 3, k % 3, Nat.mod_lt _ (by omega), by omega⟩
       have hi : i < len := by omega
       obtain ⟨d0, d1, d2⟩ := hc i hi; obtain ⟨g0, g1, g2⟩ := qX es i (by omega)
       have key : ∀ m z, w.cell? ((⟨b, off, none⟩ : Addr).add m) = some (.int .i64 z) → w.cell? ⟨b, off + m, none⟩ = some (.int .i64 z) := by
        intro m z hm; by_cases hm0 : m = 0
        · subst hm0; simpa [Addr.add] using hm
        · simpa [Addr.add, hm0] using hm
       have hj3 : j = 0 ∨ j = 1 ∨ j = 2 := by omega
       rcases hj3 with rfl | rfl | rfl
       · rw [Nat.add_zero, g0]; exact key _ _ d0
       · rw [g1]; exact key _ _ d1
       · rw [g2]; exact key _ _ d2
section
variable {H : Type} {enc : TypeId × Value → H} {W : World} {base : Nat} {v : Value} {d : DataW H} {p : List MemPlace}
end
def iH (e : Ed) : Nat → Int
 | 0 => e.1
 | 1 => e.2.1
 | _ => e.2.2
def bP (a b : Ed) : Int :=
 if a.1 < b.1 then -1 else if b.1 < a.1 then 1 else if a.2.1 < b.2.1 then -1 else if b.2.1 < a.2.1 then 1 else if a.2.2 < b.2.2 then -1 else if b.2.2 < a.2.2 then 1 else 0
theorem KR {a b : Ed} {k : Nat} (hk : k < 3) (h : ∀ j, j < k → iH a j = iH b j) (hl : iH a k < iH b k) : bP a b = -1 := by
 have hk3 : k = 0 ∨ k = 1 ∨ k = 2 := by omega
 unfold bP
 rcases hk3 with rfl | rfl | rfl
 · have hl' : a.1 < b.1 := hl
   rw [if_pos hl']
 · have h0 : a.1 = b.1 := h 0 (by omega)
   have hl' : a.2.1 < b.2.1 := hl; rw [if_neg (by omega), if_neg (by omega), if_pos hl']
 · have h0 : a.1 = b.1 := h 0 (by omega)
   have h1 : a.2.1 = b.2.1 := h 1 (by omega)
   have hl' : a.2.2 < b.2.2 := hl; rw [if_neg (by omega), if_neg (by omega), if_neg (by omega), if_neg (by omega), if_pos hl']
theorem KL {a b : Ed} {k : Nat} (hk : k < 3) (h : ∀ j, j < k → iH a j = iH b j) (hl : iH b k < iH a k) : bP a b = 1 := by
 have hk3 : k = 0 ∨ k = 1 ∨ k = 2 := by omega
 unfold bP
 rcases hk3 with rfl | rfl | rfl
 · have hl' : b.1 < a.1 := hl
   rw [if_neg (by omega), if_pos hl']
 · have h0 : a.1 = b.1 := h 0 (by omega)
   have hl' : b.2.1 < a.2.1 := hl; rw [if_neg (by omega), if_neg (by omega), if_neg (by omega), if_pos hl']
 · have h0 : a.1 = b.1 := h 0 (by omega)
   have h1 : a.2.1 = b.2.1 := h 1 (by omega)
   have hl' : b.2.2 < a.2.2 := hl; rw [if_neg (by omega), if_neg (by omega), if_neg (by omega), if_neg (by omega), if_neg (by omega), if_pos hl']
theorem Dw {a b : Ed} (h : ∀ j, j < 3 → iH a j = iH b j) : bP a b = 0 := by
 have h0 : a.1 = b.1 := h 0 (by omega)
 have h1 : a.2.1 = b.2.1 := h 1 (by omega)
 have h2 : a.2.2 = b.2.2 := h 2 (by omega)
 unfold bP; rw [if_neg (by omega), if_neg (by omega), if_neg (by omega), if_neg (by omega), if_neg (by omega), if_neg (by omega)]
theorem qg {a b : Ed} (h : bP a b = 0) : a = b := by
 unfold bP at h; obtain ⟨f, l, t⟩ := a; obtain ⟨f', l', t'⟩ := b; simp only at h
 have : f = f' ∧ l = l' ∧ t = t' := by
  split at h
  · omega
  · split at h
    · omega
    · split at h
      · omega
      · split at h
        · omega
        · split at h
          · omega
          · split at h
            · omega
            · omega
 obtain ⟨rfl, rfl, rfl⟩ := this; rfl
theorem lI (a : Ed) : bP a a = 0 := Dw (fun _ _ => rfl)
theorem lu (a b : Ed) : bP a b = -bP b a := by
 unfold bP; repeat' split
 all_goals omega
theorem jG (a b : Ed) : bP a b = -1 ∨ bP a b = 0 ∨ bP a b = 1 := by
 unfold bP; repeat' split
 all_goals simp
theorem kL {a b c : Ed} (h1 : bP a b < 0) (h2 : bP b c < 0) : bP a c < 0 := by
 have lt : ∀ x y : Ed, bP x y < 0 → x.1 < y.1 ∨ x.1 = y.1 ∧ (x.2.1 < y.2.1 ∨ x.2.1 = y.2.1 ∧ x.2.2 < y.2.2) := by
  intro x y h; unfold bP at h; repeat' split at h
  all_goals omega
 have hab := lt a b h1; have hbc := lt b c h2; unfold bP; repeat' split
 all_goals omega
def edgeOk (r s : Int) (e : Ed) : Bool := decide (0 ≤ e.1 ∧ e.1 ≤ wrap64 (s - 1)) && decide (0 ≤ e.2.2 ∧ e.2.2 ≤ wrap64 (s - 1)) && decide (1 ≤ e.2.1 ∧ e.2.1 ≤ r)
def cZ (r s : Int) (es : List Ed) (i : Nat) : Bool := edgeOk r s (es.getD i e0) && (decide (i = 0) || decide (bP (es.getD (i - 1) e0) (es.getD i e0) < 0))
def iT (r s : Int) (es : List Ed) : Nat → Bool
 | 0 => true
 | k + 1 => iT r s es k && cZ r s es k
def aK (r s : Int) (es : List Ed) : Bool := iT r s es es.length && (decide (1 ≤ r ∧ r ≤ 3) && decide (1 ≤ s ∧ s ≤ 40) && decide (es.length ≤ 120))
theorem Aw {r s : Int} {es : List Ed} {k : Nat} (h : cZ r s es k = false) : ∀ n, k < n → iT r s es n = false := by
 intro n
 induction n with
 | zero => intro h; omega
 | succ n ih =>
  intro hk; rw [iT]; by_cases hn : k = n
  · subst hn; rw [h, Bool.and_false]
  · rw [ih (by omega), Bool.false_and]
theorem qV {r s : Int} {es : List Ed} {k : Nat} (hk : k < es.length) (h : cZ r s es k = false) : aK r s es = false := by
 unfold aK; rw [Aw h _ hk, Bool.false_and]
theorem C9 {r s : Int} {es : List Ed} : ∀ {n : Nat}, iT r s es n = true → ∀ i, i < n → cZ r s es i = true := by
 intro n
 induction n with
 | zero => intro _ i h; omega
 | succ n ih =>
  intro h i hi; rw [iT, Bool.and_eq_true] at h; by_cases hn : i = n
  · subst hn; exact h.2
  · exact ih h.1 i (by omega)
theorem dN {r s : Int} {es : List Ed} : aK r s es = true ↔ (∀ i, i < es.length → cZ r s es i = true) ∧ 1 ≤ r ∧ r ≤ 3 ∧ 1 ≤ s ∧ s ≤ 40 ∧ es.length ≤ 120 := by
 unfold aK; simp only [Bool.and_eq_true, decide_eq_true_eq]; constructor
 · rintro ⟨h1, ⟨⟨h2, h3⟩, h4, h5⟩, h6⟩
   exact ⟨C9 h1, h2, h3, h4, h5, h6⟩
 · rintro ⟨h1, h2, h3, h4, h5, h6⟩
   refine ⟨?_, ⟨⟨h2, h3⟩, h4, h5⟩, h6⟩; have : ∀ n, n ≤ es.length → iT r s es n = true := by
    intro n
    induction n with
    | zero => intro _; rfl
    | succ n ih => intro hn; rw [iT, ih (by omega), h1 n (by omega)]; rfl
   exact this _ (Nat.le_refl _)
def gX (w : World) (r s : Int) (es : List Ed) (e : Ending) (w' : World) : Prop :=
 ∃ a cap, e = .returned (.agg #[.int .i64 r, .int .i64 s, .slice a es.length cap]) ∧ aF 36 3 w' w.heap.size w'.heap.size (.slice a es.length cap) es.length (aC es) ∧ Below w.heap.size w w'
def aS (w : World) (r s : Int) (es : List Ed) (b : Bool) (e : Ending) (w' : World) : Prop :=
 ∃ a cap, e = .returned (.tuple #[.agg #[.int .i64 r, .int .i64 s, .slice a es.length cap], .bool b]) ∧ aF 36 3 w' w.heap.size w'.heap.size (.slice a es.length cap) es.length (aC es) ∧ Below w.heap.size w w'
end Go.Proofs.YtgnomlcjikfdhaaGreat
