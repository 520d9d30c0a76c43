import Derived.Laws.OwnMore
import Derived.Deep.RegionWith
import Derived.Deep.LoopGhost
import Derived.Deep.RegionHeld
import Derived.StillTailTactics
import Derived.Lib.SmallJoins
import Derived.Deep.Slices
import Derived.ChangeSame
import Derived.OpenShut
import Derived.Test.YtpjlamnjiilgbaaGreatJ0Ba
namespace Go.Proofs.YtpjlamnjiilgbaaGreat
open Go.RowKit
set_option linter.unusedVariables false
def ReadS (sz B : Nat) (w : World) (v : Value) (n : Nat) (zs : List Int) : Prop :=
 zs.length = n * sz ∧ n ≤ 4000000000000 ∧ ∃ a cap, v = .slice a n cap ∧ ((a = none → cap = 0) ∧ n ≤ cap) ∧ (n = 0 ∨ ∃ b off, a = some ⟨b, off, none⟩ ∧ b < B ∧ ∀ k, k < n * sz → w.cell? ⟨b, off + k, none⟩ = some (.int .i64 (zs.getD k 0)))
def RowS (T : TypeId) (sz : Nat) (w : World) (lo hi : Nat) (v : Value) (n : Nat) (zs : List Int) : Prop :=
 zs.length = n * sz ∧ n ≤ 4000000000000 ∧ ((v = .slice none 0 0 ∧ n = 0) ∨
 ∃ g off cap cur, v = .slice (some ⟨g, off, none⟩) n cap ∧ lo ≤ g ∧ g < hi ∧ n ≤ cap ∧ w.heap[g]? = some (.cells cur T (0, 0)) ∧ (off = 0 ∧ cap ≤ maxLen ∧ cur.size = cap * sz) ∧ ∀ k, k < n * sz → cur[off + k]? = some (.int .i64 (zs.getD k 0)))
section
variable {T : TypeId} {sz n : Nat} {w w' : World} {v : Value} {zs : List Int}
theorem ReadS.below {B : Nat} (h : ReadS sz B w v n zs) (hb : Below B w w') : ReadS sz B w' v n zs := by
 obtain ⟨h0, hl, a, cap, hv, hnil, hc⟩ := h
 refine ⟨h0, hl, a, cap, hv, hnil, hc.imp id ?_⟩
 rintro ⟨b, off, ha, hB, hcell⟩
 exact ⟨b, off, ha, hB, fun i hi => by rw [hb.cell (p := ⟨b, off + i, none⟩) hB]; exact hcell i hi⟩
theorem ReadS.mono {B B' : Nat} (h : ReadS sz B w v n zs) (hB : B ≤ B') : ReadS sz B' w v n zs := by
 obtain ⟨h0, hl, a, cap, hv, hnil, hc⟩ := h
 refine ⟨h0, hl, a, cap, hv, hnil, hc.imp id ?_⟩
 rintro ⟨b, off, ha, hb, hcell⟩
 exact ⟨b, off, ha, by omega, hcell⟩
theorem ReadS.form {B : Nat} (h : ReadS sz B w v n zs) : ∃ a cap, v = .slice a n cap ∧ n ≤ cap := by
 obtain ⟨_, _, a, cap, hv, hc, _⟩ := h
 exact ⟨a, cap, hv, hc.2⟩
theorem ReadS.at_ {B : Nat} {a : Option Addr} {m cap : Nat} (h : ReadS sz B w (.slice a m cap) n zs) (i : Nat) (hi : i < n) :
 ∃ b off, a = some ⟨b, off, none⟩ ∧ b < B ∧ ∀ j, j < sz → w.cell? ⟨b, off + i * sz + j, none⟩ = some (.int .i64 (zs.getD (i * sz + j) 0)) := by
 obtain ⟨_, _, a', cap', hv, _, hr⟩ := h
 simp only [Value.slice.injEq] at hv
 obtain ⟨rfl, _, rfl⟩ := hv
 rcases hr with h0 | ⟨b, off, ha, hB, hc⟩
 · omega
 · refine ⟨b, off, ha, hB, fun j hj => ?_⟩
   have h1 : (i + 1) * sz ≤ n * sz := Nat.mul_le_mul_right _ hi
   rw [Nat.add_mul] at h1
   rw [Nat.add_assoc]
   exact hc (i * sz + j) (by omega)
theorem ReadS.len {B : Nat} {a : Option Addr} {m cap : Nat} (h : ReadS sz B w (.slice a m cap) n zs) : m = n := by
 obtain ⟨_, _, a', cap', hv, _⟩ := h
 simp only [Value.slice.injEq] at hv
 exact hv.2.1
theorem RowS.read {lo hi : Nat} (h : RowS T sz w lo hi v n zs) : ReadS sz hi w v n zs := by
 obtain ⟨h0, hl, ⟨rfl, rfl⟩ | ⟨g, off, cap, cur, rfl, hlo, hhi, hcap, hh, hc⟩⟩ := h
 · exact ⟨h0, hl, none, 0, rfl, ⟨fun _ => rfl, Nat.le_refl _⟩, .inl rfl⟩
 · refine ⟨h0, hl, _, _, rfl, ⟨(fun e => by cases e), hcap⟩, .inr ⟨g, off, rfl, hhi, fun i hi => ?_⟩⟩
   simp only [World.cell?, hh]
   simpa using hc.2 i hi
theorem RowS.keep {lo hi : Nat} (h : RowS T sz w lo hi v n zs) (hb : ∀ k, lo ≤ k → k < hi → w'.heap[k]? = w.heap[k]?) : RowS T sz w' lo hi v n zs := by
 obtain ⟨h0, hl, h1 | ⟨g, off, cap, cur, hv, hlo, hhi, hcap, hh, hc⟩⟩ := h
 · exact ⟨h0, hl, .inl h1⟩
 · exact ⟨h0, hl, .inr ⟨g, off, cap, cur, hv, hlo, hhi, hcap, by rw [hb g hlo hhi]; exact hh, hc⟩⟩
theorem RowS.below {lo hi B : Nat} (h : RowS T sz w lo hi v n zs) (hb : Below B w w') (hB : hi ≤ B) : RowS T sz w' lo hi v n zs :=
 h.keep (fun k _ hk => hb.block k (by omega))
theorem RowS.wide {lo hi lo' hi' : Nat} (h : RowS T sz w lo hi v n zs) (h1 : lo' ≤ lo) (h2 : hi ≤ hi') : RowS T sz w lo' hi' v n zs := by
 obtain ⟨h0, hl, h3 | ⟨g, off, cap, cur, hv, hlo, hhi, hcap, hh, hc⟩⟩ := h
 · exact ⟨h0, hl, .inl h3⟩
 · exact ⟨h0, hl, .inr ⟨g, off, cap, cur, hv, by omega, by omega, hcap, hh, hc⟩⟩
theorem RowS.only {lo hi lo' hi' : Nat} (h : RowS T sz w lo hi v n zs) (ho : Only lo' hi' w w') (hd : hi ≤ lo' ∨ hi' ≤ lo) : RowS T sz w' lo hi v n zs :=
 h.keep (fun k h1 h2 => ho.block k (by omega))
theorem RowS.stored {lo hi g off m cap : Nat} (h : RowS T sz w lo hi (.slice (some ⟨g, off, none⟩) m cap) n zs) (i : Nat) (z : Int) :
 RowS T sz (w.setCell ⟨g, off + i, none⟩ (.int .i64 z)) lo hi (.slice (some ⟨g, off, none⟩) m cap) n (zs.set i z) := by
 obtain ⟨h0, hl, ⟨h1, _⟩ | ⟨g', off', cap', cur, hv, hlo, hhi, hcap, hh, hc⟩⟩ := h
 · cases h1
 · simp only [Value.slice.injEq, Option.some.injEq, Addr.mk.injEq, and_true] at hv
   obtain ⟨⟨rfl, rfl⟩, rfl, rfl⟩ := hv
   refine ⟨by simpa using h0, hl, .inr ⟨g, off, cap, cur.setIfInBounds (off + i) (.int .i64 z), rfl, hlo, hhi, hcap, heap_setCell_same w g (off + i) cur _ _ hh, ⟨hc.1.1, hc.1.2.1, by simpa using hc.1.2.2⟩, fun j hj => ?_⟩⟩
   by_cases hji : j = i
   · subst hji
     have hlt : off + j < cur.size := (Array.getElem?_eq_some_iff.1 (hc.2 j hj)).1
     rw [Array.getElem?_setIfInBounds_self_of_lt hlt]
     simp [List.getD_eq_getElem?_getD, show j < zs.length by omega]
   · rw [Array.getElem?_setIfInBounds_ne (by omega), hc.2 j hj]
     simp [List.getD_eq_getElem?_getD, show ¬ i = j by omega]
theorem RowS.facts {lo hi g off m cap : Nat} (h : RowS T sz w lo hi (.slice (some ⟨g, off, none⟩) m cap) n zs) (i : Nat) (hi' : i < n * sz) :
 lo ≤ g ∧ g < hi ∧ w.cell? ⟨g, off + i, none⟩ = some (.int .i64 (zs.getD i 0)) ∧ w.frozen? ⟨g, off + i, none⟩ = false := by
 obtain ⟨h0, hl, ⟨h1, _⟩ | ⟨g', off', cap', cur, hv, hlo, hhi, hcap, hh, hc⟩⟩ := h
 · cases h1
 · simp only [Value.slice.injEq, Option.some.injEq, Addr.mk.injEq, and_true] at hv
   obtain ⟨⟨rfl, rfl⟩, rfl, rfl⟩ := hv
   refine ⟨hlo, hhi, ?_, frozen_of_row w g (off + i) cur _ hh⟩
   rw [World.cell?, hh]
   simpa using hc.2 i hi'
theorem RowS.cap {lo hi m c : Nat} {a : Option Addr} (h : RowS T sz w lo hi (.slice a m c) n zs) : m = n ∧ n ≤ c := by
 obtain ⟨h0, hl, ⟨h1, h2⟩ | ⟨g', off', cap', cur, hv, hlo, hhi, hcap, hh, hc⟩⟩ := h
 · cases h1; omega
 · simp only [Value.slice.injEq] at hv
   obtain ⟨_, rfl, rfl⟩ := hv
   exact ⟨rfl, hcap⟩
theorem RowS.form {lo hi : Nat} (h : RowS T sz w lo hi v n zs) (h0 : 0 < n) : ∃ g off cap, v = .slice (some ⟨g, off, none⟩) n cap ∧ lo ≤ g ∧ g < hi := by
 obtain ⟨_, hl, ⟨_, h2⟩ | ⟨g, off, cap, cur, hv, hlo, hhi, hcap, hh, hc⟩⟩ := h
 · omega
 · exact ⟨g, off, cap, hv, hlo, hhi⟩
def OwnsS (T : TypeId) (sz : Nat) (w : World) (base : Nat) (v : Value) (n : Nat) (zs : List Int) : Prop := w.ownsRow base T sz v n (zs.map iv)
theorem OwnsS.row {base : Nat} (h : OwnsS T sz w base v n zs) (hl : n ≤ 4000000000000) : RowS T sz w base w.heap.size v n zs := by
 have hlt := World.ownsRow.lt h
 obtain ⟨hlen, ⟨rfl, hn⟩ | ⟨g, cap, cur, rfl, hg, hh, hcap, hmax, hsz, htk⟩⟩ := h
 · exact ⟨by simpa using hlen, hl, .inl ⟨rfl, hn⟩⟩
 · rw [List.length_map] at hlen
   refine ⟨hlen, hl, .inr ⟨g, 0, cap, cur, rfl, hg, (hlt g rfl).2, hcap, hh, ⟨rfl, hmax, hsz⟩, fun i hi => ?_⟩⟩
   have h1 : (zs.map iv)[i]? = some (iv (zs.getD i 0)) := by simp [show i < zs.length by omega]
   rw [← htk, List.getElem?_take, if_pos hi] at h1
   rw [Nat.zero_add, ← Array.getElem?_toList]
   exact h1
theorem OwnsS.drewN {base : Nat} (h : OwnsS T sz w base v n zs) (k : Nat) : OwnsS T sz (w.drewN k) base v n zs := h
theorem OwnsS.mono {base base' : Nat} (h : OwnsS T sz w base v n zs) (hb : base' ≤ base) : OwnsS T sz w base' v n zs := by
 obtain ⟨h1, h2⟩ := h
 refine ⟨h1, h2.imp id ?_⟩
 rintro ⟨g, cap, cur, a, b, c⟩
 exact ⟨g, cap, cur, a, by omega, c⟩
theorem OwnsS.later {base B : Nat} (h : OwnsS T sz w base v n zs) (hb : Below B w w') (hB : w.heap.size ≤ B) : OwnsS T sz w' base v n zs := by
 have hlt := World.ownsRow.lt h
 obtain ⟨hlen, ⟨rfl, hn⟩ | ⟨g, cap, cur, rfl, hg, hh, hr⟩⟩ := h
 · exact ⟨hlen, .inl ⟨rfl, hn⟩⟩
 · refine ⟨hlen, .inr ⟨g, cap, cur, rfl, hg, ?_, hr⟩⟩
   rw [hb.block g (by have := (hlt g rfl).2; omega)]
   exact hh
theorem OwnsS.put {base g cap : Nat} (h : OwnsS T sz w base (.slice (some ⟨g, 0, none⟩) n cap) n zs) (j : Nat) (z : Int) : OwnsS T sz (w.setCell ⟨g, j, none⟩ (.int .i64 z)) base (.slice (some ⟨g, 0, none⟩) n cap) n (zs.set j z) := by
 have := (World.ownsRow.stored h j (iv z)).1
 rw [← List.map_set] at this
 exact this
theorem OwnsS.cell {base g cap : Nat} (h : OwnsS T sz w base (.slice (some ⟨g, 0, none⟩) n cap) n zs) (j : Nat) (hj : j < n * sz) : ∃ v, w.cell? ⟨g, j, none⟩ = some v := by
 rw [World.ownsRow.cellAt h j hj]
 have := h.1
 rw [List.length_map] at this
 exact ⟨_, List.getElem?_eq_getElem (by rw [List.length_map]; omega)⟩
theorem OwnsS.frozen {base g cap : Nat} (h : OwnsS T sz w base (.slice (some ⟨g, 0, none⟩) n cap) n zs) (j : Nat) : w.frozen? ⟨g, j, none⟩ = false := World.ownsRow.frozenAt h j
theorem OwnsS.lit (w : World) : OwnsS T sz (w.alloc (.cells #[] T)) w.heap.size (.slice (some ⟨w.heap.size, 0, none⟩) 0 0) 0 [] := World.ownsRow_lit w #[] 0 (Nat.le_refl _) (Nat.zero_le _) (by simp)
theorem OwnsS.nil (w : World) (base : Nat) : OwnsS T sz w base (.slice none 0 0) 0 [] := World.ownsRow_nil _ _ _ _
theorem OwnsS.form3 {base : Nat} (h : OwnsS T sz w base v n zs) : ∃ a m c, v = .slice a m c := by
 obtain ⟨hlen, ⟨rfl, hn⟩ | ⟨g, cap, cur, rfl, hg, hh, hcap, hmax, hsz, htk⟩⟩ := h
 · exact ⟨_, _, _, rfl⟩
 · exact ⟨_, _, _, rfl⟩
end
theorem infoEdge : (Tryz.prog.info? 72).map (fun i => (i.zero, i.size, i.bytes)) = some (some (.agg #[.int .i64 0, .int .i64 0, .int .i64 0]), 3, 24) := by kernel_rfl
theorem sizeEdge : (Tryz.prog.info? 72).map (·.size) = some 3 := by kernel_rfl
theorem ret_cell {fn : Func} {p : Tmp} {ty : TypeId} {fs : Array Field} (h : fn.results = #[.cell p ty]) {tmps : Array Value} {w : World} {g : Nat} {t : TypeId} {cs : Array Value} {fr : Nat × Nat} {R : Ending → World → Prop}
 (hp : tmps.getD p undef = .pointer (some ⟨g, 0, none⟩)) (hg : w.heap[g]? = some (.cells cs t fr))
 (hu : Tryz.prog.underlying ty = some (.struct fs)) (hi : (Tryz.prog.info? ty).map (·.size) = some cs.size) (hr : R (.returned (.agg cs)) w) :
 bodyPost Tryz.prog fn R .ret { tmps := tmps, defers := [] } w :=
 bodyPost_ret (results_cell_row h tmps w g t cs fr _ hp hg hu rfl hi) rfl hr
theorem heap_mid (w : World) (A B C : Obj) : (((w.alloc A).alloc B).alloc C).heap[w.heap.size + 1]? = some B := by
 have h : (((w.alloc A).alloc B).alloc C).heap[w.heap.size + 1]? = ((w.alloc A).alloc B).heap[w.heap.size + 1]? := heap_alloc_old _ _ (by simp)
 rw [h]
 have := heap_alloc_new (w.alloc A) B
 simpa using this
theorem toEdge_any (w : World) (f l t : Int) : Calls Tryz.prog 86 #[.agg #[.int .i64 f, .int .i64 l, .int .i64 t]] w fun x w' => x = .returned (.agg #[.int .i64 f, .int .i64 l, .int .i64 t]) ∧ Below w.heap.size w w' := by
 go_enter Tryz.func86, Tryz.ntmps86
 go_wp2
 (try simp only [Exit.inBlock, Exit.then])
 refine ret_cell rfl (g := w.heap.size + 1) rfl (heap_mid _ _ _ _) Tryz.underlying72 sizeEdge ?_
 exact ⟨rfl, (((Below.refl _ _).alloc (Nat.le_refl _) _).alloc (by simp) _).alloc (by simp; omega) _⟩
theorem eqEdge_any (w : World) (f l t f' l' t' : Int) : Calls Tryz.prog 98 #[.agg #[.int .i64 f, .int .i64 l, .int .i64 t], .agg #[.int .i64 f', .int .i64 l', .int .i64 t']] w fun x w' => x = .returned (.bool (decide (f = f' ∧ l = l' ∧ t = t'))) ∧ Below w.heap.size w w' := by
 obtain ⟨b, hb⟩ : ∃ b, b = decide (f = f' ∧ l = l' ∧ t = t') := ⟨_, rfl⟩
 rw [← hb]
 have hbl : Below w.heap.size w ((w.alloc (.cells #[.int .i64 f, .int .i64 l, .int .i64 t] 72)).alloc (.cells #[.int .i64 f', .int .i64 l', .int .i64 t'] 72)) := ((Below.refl _ _).alloc (Nat.le_refl _) _).alloc (by simp) _
 by_cases h1 : f = f'
 · have g1 : (f != f') = false := by rw [bne_eq_false_iff_eq]; exact h1
   by_cases h2 : l = l'
   · have g2 : (l != l') = false := by rw [bne_eq_false_iff_eq]; exact h2
     by_cases h3 : t = t'
     · have g3 : (t != t') = false := by rw [bne_eq_false_iff_eq]; exact h3
       have hbb : b = true := by rw [hb, decide_eq_true_eq]; exact ⟨h1, h2, h3⟩
       replace hb := hidI hb
       replace h1 := hidI h1
       replace h2 := hidI h2
       replace h3 := hidI h3
       replace hbb := hidI hbb
       go_enter Tryz.func98, Tryz.ntmps98
       go_wp2
       go_ret
       exact ⟨ret_bool hbb.out.symm, hbl⟩
     · have g3 : (t != t') = true := by rw [bne_iff_ne]; exact h3
       have hbb : b = false := by rw [hb, decide_eq_false_iff_not]; exact fun h => h3 h.2.2
       replace hb := hidI hb
       replace h1 := hidI h1
       replace h2 := hidI h2
       replace h3 := hidI h3
       replace hbb := hidI hbb
       go_enter Tryz.func98, Tryz.ntmps98
       go_wp2
       go_ret
       exact ⟨ret_bool hbb.out.symm, hbl⟩
   · have g2 : (l != l') = true := by rw [bne_iff_ne]; exact h2
     have hbb : b = false := by rw [hb, decide_eq_false_iff_not]; exact fun h => h2 h.2.1
     replace hb := hidI hb
     replace h1 := hidI h1
     replace h2 := hidI h2
     replace hbb := hidI hbb
     go_enter Tryz.func98, Tryz.ntmps98
     go_wp2
     go_ret
     exact ⟨ret_bool hbb.out.symm, hbl⟩
 · have g1 : (f != f') = true := by rw [bne_iff_ne]; exact h1
   have hbb : b = false := by rw [hb, decide_eq_false_iff_not]; exact fun h => h1 h.1
   replace hb := hidI hb
   replace h1 := hidI h1
   replace hbb := hidI hbb
   go_enter Tryz.func98, Tryz.ntmps98
   go_wp2
   go_ret
   exact ⟨ret_bool hbb.out.symm, hbl⟩
theorem szEdgeS_any (w : World) (a : Option Addr) (n cap : Nat) (left : Int) (hn : (n : Int) ≤ 9223372036854775807) (hl0 : 0 ≤ left) (hl1 : left ≤ 1048576) :
 Calls Tryz.prog 51 #[.slice a n cap, .int .i64 left] w fun x w' => x = .returned (.int .i64 (if left < n then -1 else left - n)) ∧ w = w' := by
 by_cases h : left < (n : Int)
 · rw [if_pos h]
   have h2 : left - (n : Int) < 0 := by omega
   go_enter Tryz.func51, Tryz.ntmps51
   go_wp2
   go_ret
   exact ⟨rfl, rfl⟩
 · rw [if_neg h]
   have h2 : ¬ left - (n : Int) < 0 := by omega
   go_enter Tryz.func51, Tryz.ntmps51
   go_wp2
   go_ret
   exact ⟨rfl, rfl⟩
theorem made_edges (n : Nat) : (madeCells #[.int .i64 0, .int .i64 0, .int .i64 0] (n * 3)).toList = (List.replicate (n * 3) (0 : Int)).map iv := by
 unfold madeCells
 apply List.ext_getElem?
 intro i
 simp only [Array.toList_map, Array.toList_range, List.getElem?_map, List.map_replicate]
 by_cases h : i < n * 3
 · have h3 : i % 3 < 3 := Nat.mod_lt _ (by omega)
   rw [List.getElem?_range h, List.getElem?_replicate, if_pos h]
   have e : i % 3 = 0 ∨ i % 3 = 1 ∨ i % 3 = 2 := by omega
   rcases e with e | e | e <;> simp [e, iv]
 · rw [List.getElem?_eq_none (by simpa using h), List.getElem?_eq_none (by simpa using h)]
   rfl
def padS (zs : List Int) (m : Nat) : List Int := zs.take m ++ List.replicate (zs.length - m) 0
theorem padS_zero (zs : List Int) : padS zs 0 = List.replicate zs.length 0 := by simp [padS]
theorem padS_full (zs : List Int) : padS zs zs.length = zs := by simp [padS]
theorem padS_step (zs : List Int) (k : Nat) (h : k < zs.length) : (padS zs k).set k (zs.getD k 0) = padS zs (k + 1) := padI_step zs k h
def EdgesRet (w : World) (n : Nat) (zs : List Int) (e : Ending) (w' : World) : Prop :=
 ∃ v, e = .returned v ∧ RowS 72 3 w' w.heap.size w'.heap.size v n zs ∧ Below w.heap.size w w'
set_option maxHeartbeats 1600000 in
theorem toEdgeS_any (w : World) (v : Value) (n : Nat) (zs : List Int) (h : ReadS 3 w.heap.size w v n zs) (hl : n ≤ 1000000000) :
 Calls Tryz.prog 52 #[v] w (EdgesRet w n zs) := by
 obtain ⟨a, cap, rfl, hnc⟩ := h.form
 obtain ⟨i0, hi, hz0, hz1, hz2⟩ := info_parts infoEdge
 have hzl := h.1
 replace h := hidI h
 go_enter Tryz.func52, Tryz.ntmps52
 go_wp2_with (at_make; go_must (refine wpList_make_full _ rfl _ _ 24 rfl w.heap.size 72 i0 (.agg #[.int .i64 0, .int .i64 0, .int .i64 0]) 3 Tryz.underlying24 hi hz0 hz1 .i64 .i64 _ _ n rfl rfl rfl rfl ?c1 ?c2 ?c3 ?_))
 case c1 => rw [hz2]; omega
 case c2 => unfold maxLen; omega
 case c3 => exact Nat.le_refl _
 intro w1 hown hg
 rw [made_edges] at hown
 have hb := (Below.refl w.heap.size w).grown hg (Nat.le_refl _) (by intro k hk; cases hk)
 clear hg hi hz0 hz1 hz2
 replace hown := hidI hown
 go_wp2
 go_loopg [4] n (fun g i wr => ∃ k : Nat, k + g = n ∧ i = .int .i64 k ∧ Hid (OwnsS 72 3 wr w.heap.size (.slice (some ⟨w.heap.size, 0, none⟩) n n) n (padS zs (k * 3))) ∧ Below w.heap.size w wr)
 case atStart => exact ⟨0, by omega, rfl, by rw [Nat.zero_mul, padS_zero, hzl]; exact hown, hb⟩
 case round =>
  clear hown hb
  obtain ⟨k, hk, rfl, hown, hb⟩ := hrel
  by_cases hlt : k < n
  · obtain ⟨b, off, rfl, hB, hc⟩ := (h.out.below hb).at_ k hlt
    have hc0 := hc 0 (by omega)
    have hc1 := hc 1 (by omega)
    have hc2 := hc 2 (by omega)
    rw [Nat.add_zero] at hc0
    rw [Nat.add_zero] at hc0
    obtain ⟨f, hf⟩ : ∃ z, z = zs.getD (k * 3) 0 := ⟨_, rfl⟩
    obtain ⟨l, hll⟩ : ∃ z, z = zs.getD (k * 3 + 1) 0 := ⟨_, rfl⟩
    obtain ⟨t, ht⟩ : ∃ z, z = zs.getD (k * 3 + 2) 0 := ⟨_, rfl⟩
    rw [← hf] at hc0
    rw [← hll] at hc1
    rw [← ht] at hc2
    have hlt2 : (k : Int) < (n : Int) := by omega
    replace hf := hidI hf
    replace hll := hidI hll
    replace ht := hidI ht
    replace hk := hidI hk
    clear hc
    have hcall := toEdge_any wr f l t
    go_wp2_with fail
    refine hcall.mono ?_
    rintro e w2 ⟨rfl, hb2'⟩
    have hb2 := hb.trans (hb2'.mono hb.size)
    have hown2 := hown.out.later hb2' (Nat.le_refl _)
    obtain ⟨x0, hx0⟩ := hown2.cell (k * 3) (by omega)
    obtain ⟨x1, hx1⟩ := hown2.cell (k * 3 + 1) (by omega)
    obtain ⟨x2, hx2⟩ := hown2.cell (k * 3 + 2) (by omega)
    have hf0 := hown2.frozen (k * 3)
    have hf1 := hown2.frozen (k * 3 + 1)
    have hf2 := hown2.frozen (k * 3 + 2)
    have hst := ((hown2.put (k * 3) f).put (k * 3 + 1) l).put (k * 3 + 2) t
    rw [hf.out, padS_step zs (k * 3) (by omega), hll.out, padS_step zs (k * 3 + 1) (by omega), ht.out, padS_step zs (k * 3 + 1 + 1) (by omega), ← hf.out, ← hll.out, ← ht.out, show k * 3 + 1 + 1 + 1 = (k + 1) * 3 by omega] at hst
    have hb3 := ((hb2.setCell (p := ⟨w.heap.size, k * 3, none⟩) (Nat.le_refl _) (.int .i64 f)).setCell (p := ⟨w.heap.size, k * 3 + 1, none⟩) (Nat.le_refl _) (.int .i64 l)).setCell (p := ⟨w.heap.size, k * 3 + 2, none⟩) (Nat.le_refl _) (.int .i64 t)
    replace hst := hidI hst
    replace hown2 := hidI hown2
    replace hb3 := hidI hb3
    clear hcall hown hb hb2 hb2' hc0 hc1 hc2
    go_wp2
    go_roundg (n - (k + 1))
    case rel => exact ⟨k + 1, by have := hk.out; omega, by go_num, hst, hb3.out⟩
    case measure => have := hk.out; omega
  · obtain rfl : k = n := by omega
    have hfull : padS zs (k * 3) = zs := by rw [← hzl]; exact padS_full zs
    rw [hfull] at hown
    have hr : EdgesRet w k zs (.returned (.slice (some ⟨w.heap.size, 0, none⟩) k k)) wr := ⟨_, rfl, OwnsS.row hown.out (by omega), hb⟩
    have hlt2 : ¬ (k : Int) < (k : Int) := by omega
    replace hr := hidI hr
    replace hfull := hidI hfull
    replace hk := hidI hk
    go_wp2
    go_ret
    exact hr.out
def TellRet (w : World) (b : Bool) (e : Ending) (w' : World) : Prop := e = .returned (.bool b) ∧ Below w.heap.size w w'
set_option maxHeartbeats 1600000 in
theorem eqEdgeS_same (w : World) (v1 v2 : Value) (n : Nat) (zs : List Int) (h1 : ReadS 3 w.heap.size w v1 n zs) (h2 : ReadS 3 w.heap.size w v2 n zs) :
 Calls Tryz.prog 57 #[v1, v2] w (TellRet w true) := by
 obtain ⟨a1, cap1, rfl, hnc1⟩ := h1.form
 obtain ⟨a2, cap2, rfl, hnc2⟩ := h2.form
 have hzl := h1.1
 have hnl := h1.2.1
 have hcl : ((n : Int) != (n : Int)) = false := by simp
 replace h1 := hidI h1
 replace h2 := hidI h2
 replace hzl := hidI hzl
 go_enter Tryz.func57, Tryz.ntmps57
 go_wp2
 go_loopg [5] n (fun g i wr => ∃ k : Nat, k + g = n ∧ i = .int .i64 k ∧ Below w.heap.size w wr)
 case atStart => exact ⟨0, by omega, rfl, Below.refl _ _⟩
 case round =>
  obtain ⟨k, hk, rfl, hb⟩ := hrel
  by_cases hlt : k < n
  · obtain ⟨b1, off1, rfl, hB1, hc⟩ := (h1.out.below hb).at_ k hlt
    obtain ⟨b2, off2, rfl, hB2, hd⟩ := (h2.out.below hb).at_ k hlt
    have hc0 := hc 0 (by omega)
    have hc1 := hc 1 (by omega)
    have hc2 := hc 2 (by omega)
    have hd0 := hd 0 (by omega)
    have hd1 := hd 1 (by omega)
    have hd2 := hd 2 (by omega)
    rw [Nat.add_zero, Nat.add_zero] at hc0 hd0
    obtain ⟨f, hf⟩ : ∃ z, z = zs.getD (k * 3) 0 := ⟨_, rfl⟩
    obtain ⟨l, hll⟩ : ∃ z, z = zs.getD (k * 3 + 1) 0 := ⟨_, rfl⟩
    obtain ⟨t, ht⟩ : ∃ z, z = zs.getD (k * 3 + 2) 0 := ⟨_, rfl⟩
    rw [← hf] at hc0 hd0
    rw [← hll] at hc1 hd1
    rw [← ht] at hc2 hd2
    have hlt2 : (k : Int) < (n : Int) := by omega
    have hcall := eqEdge_any wr.drew f l t f l t
    rw [show decide (f = f ∧ l = l ∧ t = t) = true by simp] at hcall
    replace hf := hidI hf
    replace hll := hidI hll
    replace ht := hidI ht
    replace hk := hidI hk
    clear hc hd
    go_wp2
    go_region_with (go_at_call 98; (with_reducible refine hcall.mono ?_); rintro e w2 ⟨rfl, hb2'⟩)
    all_goals
     have hb2 := hb.drew.trans (hb2'.mono (show w.heap.size ≤ wr.drew.heap.size from hb.size))
     clear hb2' hb
     go_wp2
     go_roundg (n - (k + 1))
     case rel => exact ⟨k + 1, by have := hk.out; omega, by go_num, hb2⟩
     case measure => have := hk.out; omega
  · have hlt2 : ¬ (k : Int) < (n : Int) := by omega
    replace hk := hidI hk
    go_wp2
    go_ret
    exact ⟨rfl, hb⟩
def MarkE (w : World) (lo hi : Nat) (v : Value) (k : Int) (n : Nat) (e : Ending) (w' : World) : Prop :=
 e = .returned (.int .i64 (k + 3 * n)) ∧ RowS 72 3 w' lo hi v n (marks k (n * 3)) ∧ Only lo hi w w'
set_option maxHeartbeats 1600000 in
theorem markEdgeS_any (w : World) (lo hi : Nat) (v : Value) (n : Nat) (zs : List Int) (k : Int) (h : RowS 72 3 w lo hi v n zs) (hk : 0 ≤ k) (hk2 : k ≤ 1000000000000) (hl : n ≤ 1000000000) :
 Calls Tryz.prog 58 #[v, .int .i64 k] w (MarkE w lo hi v k n) := by
 have hzl := h.1
 by_cases h0 : 0 < n
 · obtain ⟨g, off, cap, rfl, hlo, hhi⟩ := h.form h0
   replace h := hidI h
   replace hzl := hidI hzl
   go_enter Tryz.func58, Tryz.ntmps58
   go_wp2
   go_loopg [1, 5] n (fun g' kk i wr => ∃ j : Nat, j + g' = n ∧ i = .int .i64 j ∧ kk = .int .i64 (k + 3 * (j : Int)) ∧ Hid (RowS 72 3 wr lo hi (.slice (some ⟨g, off, none⟩) n cap) n (part k zs (j * 3))) ∧ Hid (Only lo hi w wr))
   case atStart => exact ⟨0, by omega, rfl, by simp, hidI (by rw [Nat.zero_mul, part_zero]; exact h.out), hidI (Only.refl _ _ _)⟩
   case round =>
    obtain ⟨j, hj, rfl, rfl, hrow, hon⟩ := hrel
    by_cases hlt : j < n
    · obtain ⟨_, _, hcell0, hfr0⟩ := hrow.out.facts (j * 3) (by omega)
      obtain ⟨_, _, hcell1, hfr1⟩ := hrow.out.facts (j * 3 + 1) (by omega)
      obtain ⟨_, _, hcell2, hfr2⟩ := hrow.out.facts (j * 3 + 2) (by omega)
      rw [← Nat.add_assoc] at hcell1 hfr1 hcell2 hfr2
      obtain ⟨x0, hx0⟩ : ∃ z, z = (part k zs (j * 3)).getD (j * 3) 0 := ⟨_, rfl⟩
      obtain ⟨x1, hx1⟩ : ∃ z, z = (part k zs (j * 3)).getD (j * 3 + 1) 0 := ⟨_, rfl⟩
      obtain ⟨x2, hx2⟩ : ∃ z, z = (part k zs (j * 3)).getD (j * 3 + 2) 0 := ⟨_, rfl⟩
      rw [← hx0] at hcell0
      rw [← hx1] at hcell1
      rw [← hx2] at hcell2
      have hst := ((hrow.out.stored (j * 3) (k + ((j * 3 : Nat) : Int))).stored (j * 3 + 1) (k + ((j * 3 + 1 : Nat) : Int))).stored (j * 3 + 2) (k + ((j * 3 + 2 : Nat) : Int))
      have hlz : n * 3 = zs.length := hzl.out.symm
      rw [part_step k zs (j * 3) (by omega), part_step k zs (j * 3 + 1) (by omega), part_step k zs (j * 3 + 1 + 1) (by omega), show j * 3 + 1 + 1 + 1 = (j + 1) * 3 by omega] at hst
      have e0 : k + ((j * 3 : Nat) : Int) = k + 3 * (j : Int) := by omega
      have e1 : k + ((j * 3 + 1 : Nat) : Int) = k + 3 * (j : Int) + 1 := by omega
      have e2 : k + ((j * 3 + 2 : Nat) : Int) = k + 3 * (j : Int) + 1 + 1 := by omega
      rw [e0, e1, e2] at hst
      rw [← Nat.add_assoc, ← Nat.add_assoc] at hst
      have hon2 := ((hon.out.set (j := off + j * 3) hlo hhi (.int .i64 (k + 3 * (j : Int)))).set (j := off + j * 3 + 1) hlo hhi (.int .i64 (k + 3 * (j : Int) + 1))).set (j := off + j * 3 + 2) hlo hhi (.int .i64 (k + 3 * (j : Int) + 1 + 1))
      have hsum : k + 3 * (j : Int) + 1 + 1 + 1 = k + 3 * ((j + 1 : Nat) : Int) := by omega
      have hkb : k + 3 * (j : Int) ≤ 1000000000000 + 3000000000 := by omega
      have hjn : (j : Int) < (n : Int) := by omega
      replace hsum := hidI hsum
      replace hst := hidI hst
      replace hon2 := hidI hon2
      replace hx0 := hidI hx0
      replace hx1 := hidI hx1
      replace hx2 := hidI hx2
      replace hj := hidI hj
      clear e0 e1 e2 hrow hon hlz
      go_wp2
      go_roundg (n - (j + 1))
      case rel => exact ⟨j + 1, by have := hj.out; omega, by go_num, by rw [hsum.out], hst, hon2⟩
      case measure => have := hj.out; omega
    · obtain rfl : j = n := by omega
      have hfull : part k zs (j * 3) = marks k (j * 3) := by rw [← hzl.out]; exact part_full k zs
      rw [hfull] at hrow
      have hr : MarkE w lo hi (.slice (some ⟨g, off, none⟩) j cap) k j (.returned (.int .i64 (k + 3 * (j : Int)))) wr := ⟨rfl, hrow.out, hon.out⟩
      have hjn : ¬ (j : Int) < (j : Int) := by omega
      replace hr := hidI hr
      replace hfull := hidI hfull
      replace hj := hidI hj
      go_wp2
      go_ret
      exact hr.out
 · obtain rfl : n = 0 := by omega
   obtain ⟨a, cap, rfl, _⟩ := h.read.form
   have hz : zs = [] := List.length_eq_zero_iff.1 (by omega)
   have hr : MarkE w lo hi (.slice a 0 cap) k 0 (.returned (.int .i64 k)) w := ⟨by simp, by rw [hz] at h; exact h, Only.refl _ _ _⟩
   replace hr := hidI hr
   replace h := hidI h
   replace hz := hidI hz
   replace hzl := hidI hzl
   go_enter Tryz.func58, Tryz.ntmps58
   go_wp2
   go_loopg [1, 5] 0 (fun g' kk i wr => kk = .int .i64 k ∧ i = .int .i64 0 ∧ Hid (wr = w))
   case atStart => exact ⟨rfl, rfl, hidI rfl⟩
   case round =>
    obtain ⟨rfl, rfl, hwr⟩ := hrel
    have hwr' := hwr.out.symm
    subst hwr'
    go_wp2
    go_ret
    exact hr.out
set_option linter.unusedSimpArgs false
theorem cell_of_heap {w : World} {g : Nat} {cs : Array Value} {T : TypeId} {fr : Nat × Nat} (h : w.heap[g]? = some (.cells cs T fr)) (j : Nat) : w.cell? ⟨g, j, none⟩ = cs[j]? := by simp [World.cell?, h]
theorem exq {α : Sort _} (a : α) : ∃ z, z = a := ⟨a, rfl⟩
theorem cell3 {w : World} {g : Nat} {cs : Array Value} {T : TypeId} {fr : Nat × Nat} (h : w.heap[g]? = some (.cells cs T fr)) : w.cell? ⟨g, 0, none⟩ = cs[0]? ∧ w.cell? ⟨g, 1, none⟩ = cs[1]? ∧ w.cell? ⟨g, 2, none⟩ = cs[2]? := ⟨cell_of_heap h 0, cell_of_heap h 1, cell_of_heap h 2⟩
theorem lyA {α : Type _} (l : List α) (i : Nat) (a : α) : l.toArray.setIfInBounds i a = (l.set i a).toArray := by simp
theorem lyB {α : Type _} (x : α) (l : List α) (a : α) : (x :: l).set 0 a = a :: l := rfl
theorem lyC {α : Type _} (x : α) (l : List α) (i : Nat) (a : α) : (x :: l).set (i + 1) a = x :: l.set i a := rfl
theorem heap_box (w : World) (A B : Obj) : ((w.alloc A).alloc B).heap[w.heap.size]? = some A := by
 have h : ((w.alloc A).alloc B).heap[w.heap.size]? = (w.alloc A).heap[w.heap.size]? := heap_alloc_old _ _ (by simp)
 rw [h]
 exact heap_alloc_new w A
theorem hideQ {P : Program} {c : Code} {Q : Exit → Act → World → Prop} {a : Act} {w : World} (hp : ∀ (ch : List PanicEntry) (a : Act) (d : Option Tmp) (v : Value) (w : World), Q (.panic ch) (a.put d v) w → Q (.panic ch) a w)
 (h : ∀ Q' : Exit → Act → World → Prop, (∀ a w, Q .normal a w → Q' .normal a w) → (∀ (ch : List PanicEntry) (a : Act) (d : Option Tmp) (v : Value) (w : World), Q' (.panic ch) (a.put d v) w → Q' (.panic ch) a w) → c.wp P Q' a w) : c.wp P Q a w :=
 h Q (fun _ _ h => h) hp
theorem take_at {P : Program} {ops : Array Oper} {Q : Exit → Act → World → Prop} {md : Region.Mode} {S : World → Prop} (i : Nat) (t : Tmp) {oi : Oper} {v : Value} {fuel : Nat} {listed : Array Bool} {a : Act} {w : World} (hi : ops[i]? = some oi) (hd : oi.dst = some t)
 (hs : Region.noSelect ops = true) (hf : Region.free md ops listed i = true) (hr : (Region.ready md ops listed).contains i = true)
 (hQ : ∀ (ch : List PanicEntry) (a : Act) (d : Option Tmp) (v : Value) (w : World), Q (.panic ch) (a.put d v) w → Q (.panic ch) a w) (hy : YieldsIf P ops S oi v a) (hS : S w)
 (h : wpAnyH P md ops Q S fuel (listed.setIfInBounds i true) (a.put (some t) v) w) : wpAnyH P md ops Q S (fuel + 1) listed a w :=
 wpAnyH_take hi hs hf hr (fun _ _ _ h => hQ _ _ _ _ _ h) hy hS (by rw [hd]; exact h)
theorem tk {P : Program} {ops : Array Oper} {Q : Exit → Act → World → Prop} {md : Region.Mode} {S : World → Prop} (i : Nat) (t : Tmp) {oi : Oper} {v : Value} {fuel : Nat} {listed : Array Bool} {a a' : Act} {w : World}
 (h : wpAnyH P md ops Q S fuel (listed.setIfInBounds i true) a' w)
 (hi : ops[i]? = some oi := by rfl) (hd : oi.dst = some t := by kernel_rfl)
 (hs : Region.noSelect ops = true := by kernel_rfl) (hf : Region.free md ops listed i = true := by kernel_rfl) (hr : (Region.ready md ops listed).contains i = true := by kernel_rfl)
 (hQ : ∀ (ch : List PanicEntry) (a : Act) (d : Option Tmp) (v : Value) (w : World), Q (.panic ch) (a.put d v) w → Q (.panic ch) a w := by assumption)
 (hy : YieldsIf P ops S oi v a := by exact Or.inl ⟨by rfl, by intro w hSw; (try dsimp only at hSw); go_simp; with_reducible rfl⟩) (hS : S w := by assumption)
 (hp : a.put (some t) v = a' := by simp only [Act.put, List.setIfInBounds_toArray, List.set_cons_zero, List.set_cons_succ]; with_reducible rfl) : wpAnyH P md ops Q S (fuel + 1) listed a w :=
 take_at i t hi hd hs hf hr hQ hy hS (by rw [hp]; exact h)
theorem tg {P : Program} {ops : Array Oper} {Q : Exit → Act → World → Prop} {md : Region.Mode} {S : World → Prop} (i : Nat) (t : Tmp) {oi : Oper} {v : Value} {fuel : Nat} {listed : Array Bool} {a a' : Act} {w : World}
 (h : wpAnyH P md ops Q S fuel (listed.setIfInBounds i true) a' w)
 (hi : ops[i]? = some oi := by rfl) (hd : oi.dst = some t := by kernel_rfl)
 (hs : Region.noSelect ops = true := by kernel_rfl) (hf : Region.free md ops listed i = true := by kernel_rfl) (hr : (Region.ready md ops listed).contains i = true := by kernel_rfl)
 (hQ : ∀ (ch : List PanicEntry) (a : Act) (d : Option Tmp) (v : Value) (w : World), Q (.panic ch) (a.put d v) w → Q (.panic ch) a w := by assumption)
 (hy : YieldsIf P ops S oi v a := by exact Or.inl ⟨by kernel_rfl, by intro w hSw; (try dsimp only at hSw); go_simp; with_reducible rfl⟩) (hS : S w := by assumption)
 (hp : a.put (some t) v = a' := by simp only [Act.put, List.setIfInBounds_toArray, List.set_cons_zero, List.set_cons_succ]; with_reducible rfl) : wpAnyH P md ops Q S (fuel + 1) listed a w :=
 take_at i t hi hd hs hf hr hQ hy hS (by rw [hp]; exact h)
theorem tn {P : Program} {ops : Array Oper} {Q : Exit → Act → World → Prop} {md : Region.Mode} {S : World → Prop} (i : Nat) (t : Tmp) {oi : Oper} {fuel : Nat} {listed : Array Bool} {a a' : Act} {w : World}
 (h : wpAnyH P md ops Q S fuel (listed.setIfInBounds i true) a' w)
 (hi : ops[i]? = some oi := by rfl) (hd : oi.dst = some t := by kernel_rfl)
 (hs : Region.noSelect ops = true := by kernel_rfl) (hf : Region.free md ops listed i = true := by kernel_rfl) (hr : (Region.ready md ops listed).contains i = true := by kernel_rfl)
 (hQ : ∀ (ch : List PanicEntry) (a : Act) (d : Option Tmp) (v : Value) (w : World), Q (.panic ch) (a.put d v) w → Q (.panic ch) a w := by assumption)
 (hy : YieldsIf P ops S oi undef a := by exact Or.inr ⟨by kernel_rfl, rfl⟩) (hS : S w := by assumption)
 (hp : a.put (some t) undef = a' := by simp only [Act.put, List.setIfInBounds_toArray, List.set_cons_zero, List.set_cons_succ]; with_reducible rfl) : wpAnyH P md ops Q S (fuel + 1) listed a w :=
 take_at i t hi hd hs hf hr hQ hy hS (by rw [hp]; exact h)
theorem rd {P : Program} {md : Region.Mode} {ops : Array Oper} {Q : Exit → Act → World → Prop} {S : World → Prop} {fuel : Nat} {listed : Array Bool} {a : Act} {w : World} (i : Nat) {o : Oper}
 (h : ∀ K' : Act → World → Prop, Shut (∀ a w, S w → (S w → wpAnyH P md ops Q S fuel (listed.setIfInBounds i true) a w) → K' a w) → if Region.wanted o (yielded ops a.tmps) = true then Oper.wp P o a w K' Q else K' (a.put o.dst undef) w)
 (hr : Region.ready md ops listed = [i] := by kernel_rfl) (ho : ops[i]? = some o := by rfl) : wpAnyH P md ops Q S (fuel + 1) listed a w :=
 wpAnyH_ready hr (by simp) (AllReadyH.cons ho h AllReadyH.nil)
theorem in_any (w : World) (x lo hi : Int) : Calls Tryz.prog 140 #[.int .i64 x, .int .i64 lo, .int .i64 hi] w fun e w' => e = .returned (.bool (decide (lo ≤ x ∧ x ≤ hi))) ∧ w = w' := by
 obtain ⟨b, hb⟩ : ∃ b, b = decide (lo ≤ x ∧ x ≤ hi) := ⟨_, rfl⟩
 rw [← hb]
 by_cases h1 : lo ≤ x
 · have g1 : x ≥ lo := h1
   by_cases h2 : x ≤ hi
   · have hbb : b = true := by rw [hb, decide_eq_true_eq]; exact ⟨h1, h2⟩
     have d1 : decide (lo ≤ x) = true := by simp [h1]
     have d2 : decide (x ≤ hi) = true := by simp [h2]
     replace hb := hidI hb
     replace hbb := hidI hbb
     go_enter Tryz.func140, Tryz.ntmps140
     go_wp2
     go_ret
     exact ⟨ret_bool hbb.out.symm, rfl⟩
   · have hbb : b = false := by rw [hb, decide_eq_false_iff_not]; exact fun h => h2 h.2
     have d1 : decide (lo ≤ x) = true := by simp [h1]
     have d2 : decide (x ≤ hi) = false := by simp; omega
     replace hb := hidI hb
     replace hbb := hidI hbb
     go_enter Tryz.func140, Tryz.ntmps140
     go_wp2
     go_ret
     exact ⟨ret_bool hbb.out.symm, rfl⟩
 · have hbb : b = false := by rw [hb, decide_eq_false_iff_not]; exact fun h => h1 h.1
   have d1 : decide (lo ≤ x) = false := by simp; omega
   replace hb := hidI hb
   replace hbb := hidI hbb
   go_enter Tryz.func140, Tryz.ntmps140
   go_wp2
   go_ret
   exact ⟨ret_bool hbb.out.symm, rfl⟩
theorem box3 {w w1 : World} {x0 x1 x2 : Value} {T : TypeId} (hw1 : w1 = w.alloc (.cells #[x0, x1, x2] T)) : w1.cell? ⟨w.heap.size, 0, none⟩ = some x0 ∧ w1.cell? ⟨w.heap.size, 1, none⟩ = some x1 ∧ w1.cell? ⟨w.heap.size, 2, none⟩ = some x2 := by
 have h := heap_alloc_new w (.cells #[x0, x1, x2] T)
 rw [← hw1] at h
 exact ⟨by simpa using cell_of_heap h 0, by simpa using cell_of_heap h 1, by simpa using cell_of_heap h 2⟩
theorem below_cell {w w' : World} {B b j : Nat} {v : Value} (h : w.cell? ⟨b, j, none⟩ = some v) (hb : Below B w w') (hl : b < B) : w'.cell? ⟨b, j, none⟩ = some v := (hb.cell (p := (⟨b, j, none⟩ : Addr)) hl).trans h
theorem addr_plus (b off j : Nat) : (⟨b, off, none⟩ : Addr).add j = ⟨b, off + j, none⟩ := by
 by_cases h : j = 0
 · subst h; simp [Addr.add]
 · simp [Addr.add, h]
theorem Only.cell {lo hi : Nat} {w w' : World} (h : Only lo hi w w') {p : Addr} (hp : p.block < lo ∨ hi ≤ p.block) : w'.cell? p = w.cell? p := World.cell?_of_block (h.block p.block hp)
theorem gpRank (w : World) (r : Int) : Calls Tryz.prog 142 #[.int .i64 r] w fun e w' => e = .returned (.bool (decide (1 ≤ r ∧ r ≤ 3))) ∧ w = w' := by
 obtain ⟨b, hb⟩ : ∃ b, b = decide (1 ≤ r ∧ r ≤ 3) := ⟨_, rfl⟩
 rw [← hb]
 by_cases h1 : 1 ≤ r
 · have d1 : decide (1 ≤ r) = true := by simp [h1]
   by_cases h2 : r ≤ 3
   · have hbb : b = true := by rw [hb, decide_eq_true_eq]; exact ⟨h1, h2⟩
     have d2 : decide (r ≤ 3) = true := by simp [h2]
     replace hb := hidI hb
     replace hbb := hidI hbb
     go_enter Tryz.func142, Tryz.ntmps142
     go_wp2
     go_ret
     exact ⟨ret_bool hbb.out.symm, rfl⟩
   · have hbb : b = false := by rw [hb, decide_eq_false_iff_not]; exact fun h => h2 h.2
     have d2 : decide (r ≤ 3) = false := by simp; omega
     replace hb := hidI hb
     replace hbb := hidI hbb
     go_enter Tryz.func142, Tryz.ntmps142
     go_wp2
     go_ret
     exact ⟨ret_bool hbb.out.symm, rfl⟩
 · have hbb : b = false := by rw [hb, decide_eq_false_iff_not]; exact fun h => h1 h.1
   have d1 : decide (1 ≤ r) = false := by simp; omega
   replace hb := hidI hb
   replace hbb := hidI hbb
   go_enter Tryz.func142, Tryz.ntmps142
   go_wp2
   go_ret
   exact ⟨ret_bool hbb.out.symm, rfl⟩
def GraphRet (w : World) (r s : Int) (n : Nat) (zs : List Int) (e : Ending) (w' : World) : Prop :=
 ∃ a cap, e = .returned (.agg #[.int .i64 r, .int .i64 s, .slice a n cap]) ∧ RowS 72 3 w' w.heap.size w'.heap.size (.slice a n cap) n zs ∧ Below w.heap.size w w'
theorem EdgesRet.form {w w' : World} {n : Nat} {zs : List Int} {e : Ending} (h : EdgesRet w n zs e w') : ∃ a cap, e = .returned (.slice a n cap) ∧ RowS 72 3 w' w.heap.size w'.heap.size (.slice a n cap) n zs ∧ Below w.heap.size w w' := by
 obtain ⟨v, rfl, hr, hb⟩ := h
 obtain ⟨a, cap, rfl, _⟩ := hr.read.form
 exact ⟨a, cap, rfl, hr, hb⟩
theorem sizeGraph : (Tryz.prog.info? 26).map (·.size) = some 3 := by kernel_rfl
theorem set3 {w : World} {g : Nat} {T : TypeId} {x0 x1 x2 : Value} (h : w.heap[g]? = some (.cells #[x0, x1, x2] T (0, 0))) (v0 v1 v2 : Value) :
 (((w.setCell ⟨g, 0, none⟩ v0).setCell ⟨g, 1, none⟩ v1).setCell ⟨g, 2, none⟩ v2).heap[g]? = some (.cells #[v0, v1, v2] T (0, 0)) := by
 have h3 := heap_setCell_same _ g 2 _ T v2 (heap_setCell_same _ g 1 _ T v1 (heap_setCell_same w g 0 _ T v0 h))
 simpa using h3
set_option maxHeartbeats 1600000 in
theorem toGraph_any (w : World) (r s : Int) (v : Value) (n : Nat) (zs : List Int) (h : ReadS 3 w.heap.size w v n zs) (hl : n ≤ 1000000000) :
 Calls Tryz.prog 17 #[.agg #[.int .i64 r, .int .i64 s, v]] w (GraphRet w r s n zs) := by
 obtain ⟨a, cap, rfl, hnc⟩ := h.form
 obtain ⟨w1, hw1⟩ : ∃ w1, w1 = ((w.alloc (.cells #[.int .i64 r, .int .i64 s, .slice a n cap] 36)).alloc (.cells #[.int .i64 0, .int .i64 0, .slice none 0 0] 26)).alloc (.cells #[.int .i64 r, .int .i64 s, .slice none 0 0] 26) := ⟨_, rfl⟩
 have hb1 : Below w.heap.size w w1 := by rw [hw1]; exact (((Below.refl _ _).alloc (Nat.le_refl _) _).alloc (by simp) _).alloc (by simp; omega) _
 have hs1 : w1.heap.size = w.heap.size + 1 + 1 + 1 := by rw [hw1]; simp
 have hcall := toEdgeS_any w1 _ n zs ((h.below hb1).mono hb1.size) hl
 have hk1 : w1.heap[w.heap.size + 1]? = some (.cells #[.int .i64 0, .int .i64 0, .slice none 0 0] 26 (0, 0)) := by rw [hw1]; exact heap_mid _ _ _ _
 have hk2 : w1.heap[w.heap.size + 1 + 1]? = some (.cells #[.int .i64 r, .int .i64 s, .slice none 0 0] 26 (0, 0)) := by
  rw [hw1]
  have := heap_alloc_new ((w.alloc (.cells #[.int .i64 r, .int .i64 s, .slice a n cap] 36)).alloc (.cells #[.int .i64 0, .int .i64 0, .slice none 0 0] 26)) (.cells #[.int .i64 r, .int .i64 s, .slice none 0 0] 26)
  simpa using this
 replace hw1 := hidI hw1
 replace h := hidI h
 replace hs1 := hidI hs1
 replace hk1 := hidI hk1
 replace hk2 := hidI hk2
 go_enter Tryz.func17, Tryz.ntmps17
 go_wp2_with fail
 rw [← hw1.out]
 refine hcall.mono ?_
 intro e w2 h2
 obtain ⟨b, cap2, rfl, hrow, hb2⟩ := h2.form
 have hk1' : w2.heap[w.heap.size + 1]? = some (.cells #[.int .i64 0, .int .i64 0, .slice none 0 0] 26 (0, 0)) := by rw [hb2.block _ (by have := hs1.out; omega)]; exact hk1.out
 have hk2' : w2.heap[w.heap.size + 1 + 1]? = some (.cells #[.int .i64 r, .int .i64 s, .slice none 0 0] 26 (0, 0)) := by rw [hb2.block _ (by have := hs1.out; omega)]; exact hk2.out
 have c10 := cell_of_heap hk1' 0
 have c11 := cell_of_heap hk1' 1
 have c12 := cell_of_heap hk1' 2
 have c20 := cell_of_heap hk2' 0
 have c21 := cell_of_heap hk2' 1
 have c22 := cell_of_heap hk2' 2
 have f1 := fun j => frozen_of_row w2 (w.heap.size + 1) j _ _ hk1'
 have f2 := fun j => frozen_of_row w2 (w.heap.size + 1 + 1) j _ _ hk2'
 clear hcall h2
 simp at c10 c11 c12 c20 c21 c22
 go_wp2
 (try simp only [Exit.inBlock, Exit.then])
 have hg2 : (w2.setCell ⟨w.heap.size + 1 + 1, 2, none⟩ (.slice b n cap2)).heap[w.heap.size + 1]? = some (.cells #[.int .i64 0, .int .i64 0, .slice none 0 0] 26 (0, 0)) := by
  rw [Below.heap_setCell _ _ _ _ (show w.heap.size + 1 ≠ w.heap.size + 1 + 1 by omega)]
  exact hk1'
 refine ret_cell rfl (g := w.heap.size + 1) rfl (set3 hg2 _ _ _) Tryz.underlying26 sizeGraph ?_
 have hs := hs1.out
 have hsz : w2.heap.size = ((((w2.setCell ⟨w.heap.size + 1 + 1, 2, none⟩ (.slice b n cap2)).setCell ⟨w.heap.size + 1, 0, none⟩ (.int .i64 r)).setCell ⟨w.heap.size + 1, 1, none⟩ (.int .i64 s)).setCell ⟨w.heap.size + 1, 2, none⟩ (.slice b n cap2)).heap.size := by simp [World.setCell]
 refine ⟨b, cap2, rfl, ?_, ?_⟩
 · rw [← hsz]
   refine RowS.wide (RowS.keep hrow (fun k h1 h2 => ?_)) (show w.heap.size ≤ w1.heap.size by omega) (Nat.le_refl _)
   rw [Below.heap_setCell _ _ _ _ (show k ≠ w.heap.size + 1 by omega), Below.heap_setCell _ _ _ _ (show k ≠ w.heap.size + 1 by omega), Below.heap_setCell _ _ _ _ (show k ≠ w.heap.size + 1 by omega), Below.heap_setCell _ _ _ _ (show k ≠ w.heap.size + 1 + 1 by omega)]
 · have hbz := hb1.trans (hb2.mono hb1.size)
   exact (((hbz.setCell (p := ⟨w.heap.size + 1 + 1, 2, none⟩) (by simp; omega) _).setCell (p := ⟨w.heap.size + 1, 0, none⟩) (by simp) _).setCell (p := ⟨w.heap.size + 1, 1, none⟩) (by simp) _).setCell (p := ⟨w.heap.size + 1, 2, none⟩) (by simp) _
set_option maxHeartbeats 1600000 in
theorem eqGraph_same (w : World) (r s : Int) (v1 v2 : Value) (n : Nat) (zs : List Int) (h1 : ReadS 3 w.heap.size w v1 n zs) (h2 : ReadS 3 w.heap.size w v2 n zs) :
 Calls Tryz.prog 20 #[.agg #[.int .i64 r, .int .i64 s, v1], .agg #[.int .i64 r, .int .i64 s, v2]] w (TellRet w true) := by
 obtain ⟨a1, cap1, rfl, hnc1⟩ := h1.form
 obtain ⟨a2, cap2, rfl, hnc2⟩ := h2.form
 obtain ⟨w1, hw1⟩ : ∃ w1, w1 = (w.alloc (.cells #[.int .i64 r, .int .i64 s, .slice a1 n cap1] 26)).alloc (.cells #[.int .i64 r, .int .i64 s, .slice a2 n cap2] 26) := ⟨_, rfl⟩
 have hb1 : Below w.heap.size w w1 := by rw [hw1]; exact ((Below.refl _ _).alloc (Nat.le_refl _) _).alloc (by simp) _
 have hcall := eqEdgeS_same w1 _ _ n zs ((h1.below hb1).mono hb1.size) ((h2.below hb1).mono hb1.size)
 have g1 : (r != r) = false := by simp
 have g2 : (s != s) = false := by simp
 replace hw1 := hidI hw1
 replace h1 := hidI h1
 replace h2 := hidI h2
 go_enter Tryz.func20, Tryz.ntmps20
 go_wp2_with fail
 rw [← hw1.out]
 refine hcall.mono ?_
 rintro e w2 ⟨rfl, hb2⟩
 have hb := hb1.trans (hb2.mono hb1.size)
 clear hcall hb2 hb1
 go_wp2
 go_ret
 exact ⟨rfl, hb⟩
theorem markGraph_any (w : World) (lo hi : Nat) (r s : Int) (v : Value) (n : Nat) (zs : List Int) (k : Int) (h : RowS 72 3 w lo hi v n zs) (hhi : hi ≤ w.heap.size) (hk : 0 ≤ k) (hk2 : k ≤ 1000000000000) (hl : n ≤ 1000000000) :
 Calls Tryz.prog 21 #[.agg #[.int .i64 r, .int .i64 s, v], .int .i64 k] w fun e w' => e = .returned (.int .i64 (k + 3 * n)) ∧ RowS 72 3 w' lo hi v n (marks k (n * 3)) ∧ ∃ w1, Below w.heap.size w w1 ∧ Only lo hi w1 w' := by
 obtain ⟨a, cap, rfl, hnc⟩ := h.read.form
 obtain ⟨w1, hw1⟩ : ∃ w1, w1 = w.alloc (.cells #[.int .i64 r, .int .i64 s, .slice a n cap] 26) := ⟨_, rfl⟩
 have hb1 : Below w.heap.size w w1 := by rw [hw1]; exact (Below.refl _ _).alloc (Nat.le_refl _) _
 have hcall := markEdgeS_any w1 lo hi _ n zs k (h.below hb1 hhi) hk hk2 hl
 replace hw1 := hidI hw1
 replace h := hidI h
 go_enter Tryz.func21, Tryz.ntmps21
 go_wp2_with fail
 rw [← hw1.out]
 refine hcall.mono ?_
 rintro e w2 ⟨rfl, hrow, hon⟩
 replace hrow := hidI hrow
 clear hcall
 go_wp2
 go_ret
 exact ⟨rfl, hrow.out, w1, hb1, hon⟩
theorem szGraph_any (w : World) (r s : Int) (a : Option Addr) (n cap : Nat) (left : Int) (hn : (n : Int) ≤ 9223372036854775807) (hl0 : 0 ≤ left) (hl1 : left ≤ 1048576) :
 Calls Tryz.prog 16 #[.agg #[.int .i64 r, .int .i64 s, .slice a n cap], .int .i64 left] w fun e w' => e = .returned (.int .i64 (if left < n then -1 else left - n)) ∧ Below w.heap.size w w' := by
 have hb1 := (Below.refl w.heap.size w).alloc (Nat.le_refl _) (.cells #[.int .i64 r, .int .i64 s, .slice a n cap] 36)
 have hcall := fun w1 => szEdgeS_any w1 a n cap left hn hl0 hl1
 obtain ⟨q, hq⟩ : ∃ q, q = (if left < n then -1 else left - n) := ⟨_, rfl⟩
 rw [← hq] at hcall
 rw [← hq]
 by_cases h : left < (n : Int)
 · rw [if_pos h] at hq
   subst hq
   go_enter Tryz.func16, Tryz.ntmps16
   go_wp2_with fail
   refine (hcall _).mono ?_
   rintro e w2 ⟨rfl, rfl⟩
   clear hcall
   go_wp2
   go_ret
   exact ⟨rfl, hb1⟩
 · rw [if_neg h] at hq
   have hng : ¬ q < 0 := by omega
   replace hq := hidI hq
   go_enter Tryz.func16, Tryz.ntmps16
   go_wp2_with fail
   refine (hcall _).mono ?_
   rintro e w2 ⟨rfl, rfl⟩
   clear hcall
   go_wp2
   go_ret
   exact ⟨rfl, hb1⟩
open Go.RowKit Go.ChangeShapes Go.WideShapes Go.Deep
set_option maxRecDepth 100000
abbrev Ed := Int × Int × Int
def e0 : Ed := (0, 0, 0)
def flatE : List Ed → List Int
 | [] => []
 | e :: es => e.1 :: e.2.1 :: e.2.2 :: flatE es
theorem flatE_length : ∀ es : List Ed, (flatE es).length = es.length * 3 := by
 intro es
 induction es with
 | nil => rfl
 | cons e es ih => simp only [flatE, List.length_cons, ih]; omega
theorem flatE_append (a b : List Ed) : flatE (a ++ b) = flatE a ++ flatE b := by
 induction a with
 | nil => rfl
 | cons e a ih => simp only [List.cons_append, flatE, ih]
theorem flatE_at : ∀ (es : List Ed) (i : Nat), i < es.length → (flatE es).getD (i * 3) 0 = (es.getD i e0).1 ∧ (flatE es).getD (i * 3 + 1) 0 = (es.getD i e0).2.1 ∧ (flatE es).getD (i * 3 + 2) 0 = (es.getD i e0).2.2 := by
 intro es
 induction es with
 | nil => intro i h; simp at h
 | cons e es ih =>
  intro i h
  cases i with
  | zero => simp [flatE]
  | succ i =>
   have := ih i (by simpa using h)
   rw [show (i + 1) * 3 = i * 3 + 1 + 1 + 1 by omega]
   simpa [flatE] using this
def InE (es : List Ed) : Prop := ∀ e ∈ es, (-9223372036854775808 ≤ e.1 ∧ e.1 ≤ 9223372036854775807) ∧ (-9223372036854775808 ≤ e.2.1 ∧ e.2.1 ≤ 9223372036854775807) ∧ (-9223372036854775808 ≤ e.2.2 ∧ e.2.2 ≤ 9223372036854775807)
theorem InE.at_ {es : List Ed} (h : InE es) {i : Nat} (hi : i < es.length) : (-9223372036854775808 ≤ (es.getD i e0).1 ∧ (es.getD i e0).1 ≤ 9223372036854775807) ∧ (-9223372036854775808 ≤ (es.getD i e0).2.1 ∧ (es.getD i e0).2.1 ≤ 9223372036854775807) ∧ (-9223372036854775808 ≤ (es.getD i e0).2.2 ∧ (es.getD i e0).2.2 ≤ 9223372036854775807) := by
 apply h
 rw [List.getD_eq_getElem?_getD, List.getElem?_eq_getElem hi]
 exact List.getElem_mem hi
abbrev ReadE (B : Nat) (w : World) (v : Value) (es : List Ed) : Prop := ReadS 3 B w v es.length (flatE es)
theorem ReadE.at3 {B : Nat} {w : World} {a : Option Addr} {n cap : Nat} {es : List Ed} (h : ReadE B w (.slice a n cap) es) (i : Nat) (hi : i < es.length) :
 ∃ b off, a = some ⟨b, off, none⟩ ∧ b < B ∧ w.cell? ⟨b, off + i * 3, none⟩ = some (.int .i64 (es.getD i e0).1) ∧ w.cell? ⟨b, off + i * 3 + 1, none⟩ = some (.int .i64 (es.getD i e0).2.1) ∧ w.cell? ⟨b, off + i * 3 + 2, none⟩ = some (.int .i64 (es.getD i e0).2.2) := by
 obtain ⟨b, off, ha, hB, hc⟩ := h.at_ i hi
 obtain ⟨h0, h1, h2⟩ := flatE_at es i hi
 have c0 := hc 0 (by omega)
 rw [Nat.add_zero, Nat.add_zero, h0] at c0
 have c1 := hc 1 (by omega)
 rw [h1] at c1
 have c2 := hc 2 (by omega)
 rw [h2] at c2
 exact ⟨b, off, ha, hB, c0, c1, c2⟩
def IsRowE (w : World) (a : Option Addr) (len cap : Nat) (es : List Ed) : Prop :=
 (a = none ∧ len = 0 ∧ cap = 0 ∧ es = []) ∨ ∃ x, a = some x ∧ len ≤ cap ∧ cap ≤ maxLen ∧ es.length = len ∧ InE es ∧
  ∀ i, i < len → w.cell? (x.add (i * 3)) = some (.int .i64 (es.getD i e0).1) ∧ w.cell? (x.add (i * 3 + 1)) = some (.int .i64 (es.getD i e0).2.1) ∧ w.cell? (x.add (i * 3 + 2)) = some (.int .i64 (es.getD i e0).2.2)
theorem IsRowE.len {w : World} {a : Option Addr} {len cap : Nat} {es : List Ed} (h : IsRowE w a len cap es) : es.length = len ∧ InE es ∧ (len : Int) ≤ 9223372036854775807 := by
 rcases h with ⟨_, rfl, _, rfl⟩ | ⟨x, _, h1, h2, h3, h4, _⟩
 · exact ⟨rfl, (fun e h => by cases h), by omega⟩
 · exact ⟨h3, h4, by unfold maxLen at h2; omega⟩
theorem IsRowE.read {w : World} {a : Option Addr} {len cap : Nat} {es : List Ed} (h : IsRowE w a len cap es) (hl : len ≤ 1048576) : ReadE w.heap.size w (.slice a len cap) es := by
 rcases h with ⟨rfl, rfl, rfl, rfl⟩ | ⟨x, rfl, h1, h2, h3, h4, hc⟩
 · exact ⟨rfl, by simp, none, 0, rfl, ⟨fun _ => rfl, Nat.le_refl _⟩, .inl rfl⟩
 · refine ⟨flatE_length es, by omega, some x, cap, by rw [h3], ⟨(fun e => by cases e), by omega⟩, ?_⟩
   rcases Nat.eq_zero_or_pos len with h0 | h0
   · left; omega
   · right
     have c0 := (hc 0 h0).1
     obtain ⟨b, off, spot⟩ := x
     have hspot : spot = none := by simpa [Addr.add] using World.cell?_spot c0
     subst hspot
     refine ⟨b, off, rfl, ?_, fun k hk => ?_⟩
     · have c0' : w.cell? ⟨b, off, none⟩ = some (.int .i64 (es.getD 0 e0).1) := by simpa [Addr.add] using c0
       rcases Nat.lt_or_ge b w.heap.size with h1 | h1
       · exact h1
       · unfold World.cell? at c0'
         rw [show w.heap[(⟨b, off, none⟩ : Addr).block]? = none from Array.getElem?_eq_none h1] at c0'
         cases c0'
     · obtain ⟨i, j, hj, rfl⟩ : ∃ i j, j < 3 ∧ k = i * 3 + j := ⟨k / 3, k % 3, Nat.mod_lt _ (by omega), by omega⟩
       have hi : i < len := by omega
       obtain ⟨d0, d1, d2⟩ := hc i hi
       obtain ⟨g0, g1, g2⟩ := flatE_at es i (by omega)
       have key : ∀ m z, w.cell? ((⟨b, off, none⟩ : Addr).add m) = some (.int .i64 z) → w.cell? ⟨b, off + m, none⟩ = some (.int .i64 z) := by
        intro m z hm
        by_cases hm0 : m = 0
        · subst hm0; simpa [Addr.add] using hm
        · simpa [Addr.add, hm0] using hm
       have hj3 : j = 0 ∨ j = 1 ∨ j = 2 := by omega
       rcases hj3 with rfl | rfl | rfl
       · rw [Nat.add_zero, g0]; exact key _ _ d0
       · rw [g1]; exact key _ _ d1
       · rw [g2]; exact key _ _ d2
section
variable {H : Type} {enc : TypeId × Value → H} {W : World} {base : Nat} {v : Value} {d : DataW H} {p : List MemPlace}
theorem open_graph {r : Reach} {b0 : Nat} (hv : Value.okWide Tryz.prog W r b0 36 v) (h : DataW.Trod enc Tryz.prog W 0 (fun _ => true) true 36 v d p) :
 ∃ (r s : Int) (a : Option Addr) (len cap : Nat) (es : List Ed), v = .agg #[.int .i64 r, .int .i64 s, .slice a len cap] ∧ (Lit.int .i64 r).wf = true ∧ (Lit.int .i64 s).wf = true ∧ IsRowE W a len cap es := by
 obtain ⟨v0, v1, v2, y0, y1, y2, n, rfl, _, _, t0, t1, t2⟩ := Go.Joins.open_agg3 Tryz.underlying36 (by kernel_rfl) (by kernel_rfl) hv h
 obtain ⟨r, hr, _, wr⟩ := DataW.trod_int Tryz.underlying3 t0
 obtain ⟨s, hs, _, ws⟩ := DataW.trod_int Tryz.underlying3 t1
 simp only [List.cons.injEq, and_true] at hr hs
 subst hr hs
 rcases open_slice Tryz.underlying34 t2 with ⟨h2, _⟩ | ⟨x, len, cap, m, n', D, Pl, h2, _, hlc, hcm, hm, _, hx⟩
 · simp only [List.cons.injEq, and_true] at h2
   subst h2
   exact ⟨r, s, none, 0, 0, [], rfl, wr, ws, .inl ⟨rfl, rfl, rfl, rfl⟩⟩
 · simp only [List.cons.injEq, and_true] at h2
   subst h2
   have hlm : len ≤ m := by rw [hm]; split <;> omega
   have ce : (Tryz.prog).cellsOf 105 = 3 := by kernel_rfl
   have c1 : (Tryz.prog).cellsOf 3 = 1 := by kernel_rfl
   have each : ∀ i, i < len → ∃ e : Ed, W.cell? (x.add (i * 3)) = some (.int .i64 e.1) ∧ W.cell? (x.add (i * 3 + 1)) = some (.int .i64 e.2.1) ∧ W.cell? (x.add (i * 3 + 2)) = some (.int .i64 e.2.2) ∧
    (Lit.int .i64 e.1).wf = true ∧ (Lit.int .i64 e.2.1).wf = true ∧ (Lit.int .i64 e.2.2).wf = true := by
    intro i hi
    obtain ⟨cs', h1, h2⟩ := hx i (by omega)
    rw [ce] at h1
    obtain ⟨_, hlen, hcell⟩ := World.cells?_some h1
    obtain ⟨y0, y1, y2, n2, _, _, q0, q1, q2⟩ := trod_struct3 Tryz.underlying105 h2
    match cs', hlen with
    | [v0, v1, v2], _ =>
     simp [c1] at q0 q1 q2
     obtain ⟨f, hf, _, wf⟩ := DataW.trod_int Tryz.underlying3 q0
     obtain ⟨l, hl, _, wl⟩ := DataW.trod_int Tryz.underlying3 q1
     obtain ⟨t, ht, _, wt⟩ := DataW.trod_int Tryz.underlying3 q2
     simp only [List.cons.injEq, and_true] at hf hl ht
     subst hf hl ht
     have d0 := hcell 0 (by omega)
     have d1 := hcell 1 (by omega)
     have d2 := hcell 2 (by omega)
     rw [add_add] at d0 d1 d2
     exact ⟨(f, l, t), by simpa using d0, by simpa using d1, by simpa using d2, wf, wl, wt⟩
   obtain ⟨F, hF⟩ := choose_lt each
   refine ⟨r, s, some x, len, cap, (List.range len).map F, rfl, wr, ws, .inr ⟨x, rfl, hlc, hcm, by simp, ?_, fun i hi => ?_⟩⟩
   · intro e he
     obtain ⟨i, hi, rfl⟩ := List.mem_map.1 he
     obtain ⟨_, _, _, g0, g1, g2⟩ := hF i (List.mem_range.1 hi)
     exact ⟨bounds_i64 g0, bounds_i64 g1, bounds_i64 g2⟩
   · have e : ((List.range len).map F).getD i e0 = F i := by simp [List.getD_eq_getElem?_getD, hi]
     rw [e]
     obtain ⟨g0, g1, g2, _⟩ := hF i hi
     exact ⟨g0, g1, g2⟩
end
def ecell (e : Ed) : Nat → Int
 | 0 => e.1
 | 1 => e.2.1
 | _ => e.2.2
def cmpE (a b : Ed) : Int :=
 if a.1 < b.1 then -1 else if b.1 < a.1 then 1 else if a.2.1 < b.2.1 then -1 else if b.2.1 < a.2.1 then 1 else if a.2.2 < b.2.2 then -1 else if b.2.2 < a.2.2 then 1 else 0
theorem cmpE_lt {a b : Ed} {k : Nat} (hk : k < 3) (h : ∀ j, j < k → ecell a j = ecell b j) (hl : ecell a k < ecell b k) : cmpE a b = -1 := by
 have hk3 : k = 0 ∨ k = 1 ∨ k = 2 := by omega
 unfold cmpE
 rcases hk3 with rfl | rfl | rfl
 · have hl' : a.1 < b.1 := hl
   rw [if_pos hl']
 · have h0 : a.1 = b.1 := h 0 (by omega)
   have hl' : a.2.1 < b.2.1 := hl
   rw [if_neg (by omega), if_neg (by omega), if_pos hl']
 · have h0 : a.1 = b.1 := h 0 (by omega)
   have h1 : a.2.1 = b.2.1 := h 1 (by omega)
   have hl' : a.2.2 < b.2.2 := hl
   rw [if_neg (by omega), if_neg (by omega), if_neg (by omega), if_neg (by omega), if_pos hl']
theorem cmpE_gt {a b : Ed} {k : Nat} (hk : k < 3) (h : ∀ j, j < k → ecell a j = ecell b j) (hl : ecell b k < ecell a k) : cmpE a b = 1 := by
 have hk3 : k = 0 ∨ k = 1 ∨ k = 2 := by omega
 unfold cmpE
 rcases hk3 with rfl | rfl | rfl
 · have hl' : b.1 < a.1 := hl
   rw [if_neg (by omega), if_pos hl']
 · have h0 : a.1 = b.1 := h 0 (by omega)
   have hl' : b.2.1 < a.2.1 := hl
   rw [if_neg (by omega), if_neg (by omega), if_neg (by omega), if_pos hl']
 · have h0 : a.1 = b.1 := h 0 (by omega)
   have h1 : a.2.1 = b.2.1 := h 1 (by omega)
   have hl' : b.2.2 < a.2.2 := hl
   rw [if_neg (by omega), if_neg (by omega), if_neg (by omega), if_neg (by omega), if_neg (by omega), if_pos hl']
theorem cmpE_eq {a b : Ed} (h : ∀ j, j < 3 → ecell a j = ecell b j) : cmpE a b = 0 := by
 have h0 : a.1 = b.1 := h 0 (by omega)
 have h1 : a.2.1 = b.2.1 := h 1 (by omega)
 have h2 : a.2.2 = b.2.2 := h 2 (by omega)
 unfold cmpE
 rw [if_neg (by omega), if_neg (by omega), if_neg (by omega), if_neg (by omega), if_neg (by omega), if_neg (by omega)]
theorem cmpE_zero {a b : Ed} (h : cmpE a b = 0) : a = b := by
 unfold cmpE at h
 obtain ⟨f, l, t⟩ := a
 obtain ⟨f', l', t'⟩ := b
 simp only at h
 have : f = f' ∧ l = l' ∧ t = t' := by
  split at h
  · omega
  · split at h
    · omega
    · split at h
      · omega
      · split at h
        · omega
        · split at h
          · omega
          · split at h
            · omega
            · omega
 obtain ⟨rfl, rfl, rfl⟩ := this
 rfl
theorem cmpE_self (a : Ed) : cmpE a a = 0 := cmpE_eq (fun _ _ => rfl)
theorem cmpE_neg (a b : Ed) : cmpE a b = -cmpE b a := by
 unfold cmpE
 repeat' split
 all_goals omega
theorem cmpE_cases (a b : Ed) : cmpE a b = -1 ∨ cmpE a b = 0 ∨ cmpE a b = 1 := by
 unfold cmpE
 repeat' split
 all_goals simp
theorem cmpE_trans {a b c : Ed} (h1 : cmpE a b < 0) (h2 : cmpE b c < 0) : cmpE a c < 0 := by
 have lt : ∀ x y : Ed, cmpE x y < 0 → x.1 < y.1 ∨ x.1 = y.1 ∧ (x.2.1 < y.2.1 ∨ x.2.1 = y.2.1 ∧ x.2.2 < y.2.2) := by
  intro x y h
  unfold cmpE at h
  repeat' split at h
  all_goals omega
 have hab := lt a b h1
 have hbc := lt b c h2
 unfold cmpE
 repeat' split
 all_goals omega
def edgeOk (r s : Int) (e : Ed) : Bool := decide (0 ≤ e.1 ∧ e.1 ≤ wrap64 (s - 1)) && decide (0 ≤ e.2.2 ∧ e.2.2 ≤ wrap64 (s - 1)) && decide (1 ≤ e.2.1 ∧ e.2.1 ≤ r)
def placeOk (r s : Int) (es : List Ed) (i : Nat) : Bool := edgeOk r s (es.getD i e0) && (decide (i = 0) || decide (cmpE (es.getD (i - 1) e0) (es.getD i e0) < 0))
def placesOk (r s : Int) (es : List Ed) : Nat → Bool
 | 0 => true
 | k + 1 => placesOk r s es k && placeOk r s es k
def isGr (r s : Int) (es : List Ed) : Bool := placesOk r s es es.length && (decide (1 ≤ r ∧ r ≤ 3) && decide (1 ≤ s ∧ s ≤ 40) && decide (es.length ≤ 120))
theorem placesOk_not {r s : Int} {es : List Ed} {k : Nat} (h : placeOk r s es k = false) : ∀ n, k < n → placesOk r s es n = false := by
 intro n
 induction n with
 | zero => intro h; omega
 | succ n ih =>
  intro hk
  rw [placesOk]
  by_cases hn : k = n
  · subst hn; rw [h, Bool.and_false]
  · rw [ih (by omega), Bool.false_and]
theorem isGr_not {r s : Int} {es : List Ed} {k : Nat} (hk : k < es.length) (h : placeOk r s es k = false) : isGr r s es = false := by
 unfold isGr
 rw [placesOk_not h _ hk, Bool.false_and]
theorem placesOk_at {r s : Int} {es : List Ed} : ∀ {n : Nat}, placesOk r s es n = true → ∀ i, i < n → placeOk r s es i = true := by
 intro n
 induction n with
 | zero => intro _ i h; omega
 | succ n ih =>
  intro h i hi
  rw [placesOk, Bool.and_eq_true] at h
  by_cases hn : i = n
  · subst hn; exact h.2
  · exact ih h.1 i (by omega)
theorem isGr_iff {r s : Int} {es : List Ed} : isGr r s es = true ↔ (∀ i, i < es.length → placeOk r s es i = true) ∧ 1 ≤ r ∧ r ≤ 3 ∧ 1 ≤ s ∧ s ≤ 40 ∧ es.length ≤ 120 := by
 unfold isGr
 simp only [Bool.and_eq_true, decide_eq_true_eq]
 constructor
 · rintro ⟨h1, ⟨⟨h2, h3⟩, h4, h5⟩, h6⟩
   exact ⟨placesOk_at h1, h2, h3, h4, h5, h6⟩
 · rintro ⟨h1, h2, h3, h4, h5, h6⟩
   refine ⟨?_, ⟨⟨h2, h3⟩, h4, h5⟩, h6⟩
   have : ∀ n, n ≤ es.length → placesOk r s es n = true := by
    intro n
    induction n with
    | zero => intro _; rfl
    | succ n ih => intro hn; rw [placesOk, ih (by omega), h1 n (by omega)]; rfl
   exact this _ (Nat.le_refl _)
def LwGraph (w : World) (r s : Int) (es : List Ed) (e : Ending) (w' : World) : Prop :=
 ∃ a cap, e = .returned (.agg #[.int .i64 r, .int .i64 s, .slice a es.length cap]) ∧ RowS 72 3 w' w.heap.size w'.heap.size (.slice a es.length cap) es.length (flatE es) ∧ Below w.heap.size w w'
def LwGraphBool (w : World) (r s : Int) (es : List Ed) (b : Bool) (e : Ending) (w' : World) : Prop :=
 ∃ a cap, e = .returned (.tuple #[.agg #[.int .i64 r, .int .i64 s, .slice a es.length cap], .bool b]) ∧ RowS 72 3 w' w.heap.size w'.heap.size (.slice a es.length cap) es.length (flatE es) ∧ Below w.heap.size w w'
end Go.Proofs.YtpjlamnjiilgbaaGreat
