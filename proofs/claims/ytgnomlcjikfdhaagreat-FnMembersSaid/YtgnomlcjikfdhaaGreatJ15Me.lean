import Derived.Deep.Cut
import Derived.Deep.LoopGhost
import Derived.Laws.AppendOwn
import Derived.Laws.AppendOwnNone
import Derived.Maps.AppendAt
import Derived.Test.YtgnomlcjikfdhaaGreatJ10Me
import Derived.Test.YtgnomlcjikfdhaaGreatJ11Me
import Derived.Test.YtgnomlcjikfdhaaGreatJ9Me
import Derived.Test.YtgnomlcjikfdhaaGreatJ14Me
import Derived.Test.YtgnomlcjikfdhaaGreatJ1Me
namespace Go.Proofs.YtgnomlcjikfdhaaGreat
open Go.RowKit
set_option linter.unusedVariables false
set_option linter.unusedSimpArgs false
def MF (P : List (List Int) → Prop) (B g : Nat) (a : Option Addr) (len cap : Nat) (w : World) (e : Ending) (w' : World) : Prop :=
 ∃ v zss, P zss ∧ e = .returned v ∧ dJ w'.heap.size w' v zss ∧ w.grownBy w' (some g) ∧ Dr B g a len cap w'
def mO (w : World) (base : Nat) (v : Value) (us : List Value) (zss : List (List Int)) : Prop :=
 bU w base v us ∧ us.length = zss.length ∧ ∀ i, i < us.length → ∃ lo hi, bg w lo hi (us.getD i undef) (zss.getD i []) ∧ base ≤ lo ∧ hi ≤ w.heap.size ∧ ∀ k, v.ownBlock = some k → k < lo ∨ hi ≤ k
theorem mO.kept {w w' : World} {base g : Nat} {v : Value} {us : List Value} {zss : List (List Int)} (h : mO w base v us zss) (hg : w.grownBy w' (some g)) (hlt : g < base) : mO w' base v us zss := by
 obtain ⟨h1, h2, h3⟩ := h; have hl := World.ownsRow.lt h1; refine ⟨bU.other h1 (fun k hk => hg.block k (hl k hk).2 (fun e => by cases e; have := (hl g hk).1; omega)), h2, fun i hi => ?_⟩
 obtain ⟨lo, hi2, q1, q2, q3, q4⟩ := h3 i hi; exact ⟨lo, hi2, q1.keep (fun k a1 a2 => hg.block k (by omega) (fun e => by cases e; omega)), q2, Nat.le_trans q3 hg.size, q4⟩
theorem mO.push {w0 w w' : World} {base : Nat} {v v' u : Value} {us : List Value} {zss : List (List Int)} {zs : List Int} {X : Obj} (h : mO w base v us zss) (hv : ∀ k, v.ownBlock = some k → k < w0.heap.size) (hw0 : base ≤ w0.heap.size) (hu : bg w w0.heap.size w.heap.size u zs)
 (ho : bU w' base v' (us ++ [u])) (hg : (w.alloc X).grownBy w' v.ownBlock) (hloc : v'.ownBlock = v.ownBlock ∨ v'.ownBlock = some (w.heap.size + 1)) : mO w' base v' (us ++ [u]) (zss ++ [zs]) := by
 obtain ⟨h1, h2, h3⟩ := h; have hsz := hg.size; simp at hsz
 have hblk : ∀ k, k < w.heap.size → v.ownBlock ≠ some k → w'.heap[k]? = w.heap[k]? := fun k hk hne => by
  rw [hg.block k (by simp; omega) (fun e => hne e.symm)]; exact heap_alloc_old _ _ hk
 have hlast : ∀ lo hi, (∀ k, v.ownBlock = some k → k < lo ∨ hi ≤ k) → hi ≤ w.heap.size → ∀ k, v'.ownBlock = some k → k < lo ∨ hi ≤ k := fun lo hi h5 h6 k hk => by
  rcases hloc with e | e
  · exact h5 k (e ▸ hk)
  · rw [e] at hk; right; have : w.heap.size + 1 = k := by simpa using hk
    omega
 refine ⟨ho, by simp [h2], fun i hi => ?_⟩
 by_cases hil : i < us.length
 · obtain ⟨lo, hi2, q1, q2, q3, q4⟩ := h3 i hil
   refine ⟨lo, hi2, ?_, q2, by omega, hlast lo hi2 q4 q3⟩
   have e1 : (us ++ [u]).getD i undef = us.getD i undef := by rw [gD, List.getElem?_append_left hil, gD]
   have e2 : (zss ++ [zs]).getD i [] = zss.getD i [] := by rw [gD, List.getElem?_append_left (by omega), gD]
   rw [e1, e2]; exact q1.keep (fun k a1 a2 => hblk k (by omega) (fun e => by rcases q4 k e with c | c <;> omega))
 · have hie : i = us.length := by rw [List.length_append, List.length_singleton] at hi; omega
   subst hie; have hv2 : ∀ k, v.ownBlock = some k → k < w0.heap.size ∨ w.heap.size ≤ k := fun k hk => .inl (hv k hk)
   refine ⟨w0.heap.size, w.heap.size, ?_, hw0, by omega, hlast _ _ hv2 (nl _)⟩
   have e1 : (us ++ [u]).getD us.length undef = u := by simp
   have e2 : (zss ++ [zs]).getD us.length [] = zs := by rw [h2]; simp
   rw [e1, e2]; exact hu.keep (fun k a1 a2 => hblk k a2 (fun e => by have := hv k e; omega))
theorem mO.read {w : World} {base : Nat} {v : Value} {us : List Value} {zss : List (List Int)} (h : mO w base v us zss) (hl : zss.length ≤ 1000) : dJ w.heap.size w v zss := by
 obtain ⟨h1, h2, h3⟩ := h; have hlt := World.ownsRow.lt h1; obtain ⟨_, ⟨rfl, h5⟩ | ⟨g, cap, cur, rfl, hg, hh, hc1, hc2, hc3, hc4⟩⟩ := h1
 · have : zss = [] := List.length_eq_zero_iff.1 (by omega)
   subst this; exact ⟨by simp, none, 0, rfl, ⟨fun _ => rfl, nl _⟩, .inl rfl⟩
 · refine ⟨by omega, _, cap, by rw [h2], ⟨(fun e => by cases e), by omega⟩, .inr ⟨g, 0, rfl, (hlt g rfl).2, fun i hi => ?_⟩⟩
   obtain ⟨lo, hi2, q1, q2, q3, q4⟩ := h3 i (by omega)
   refine ⟨us.getD i undef, ?_, q1.read.mono q3⟩; have hi' : i < us.length := by omega
   have e1 : (cur.toList.take (us.length * 1))[i]? = us[i]? := by rw [hc4]
   rw [List.getElem?_take, if_pos (by omega), gE hi'] at e1
   rw [World.cell?, hh]; simp only
   rw [Nat.zero_add, ← Array.getElem?_toList, e1, gD, gE hi']; rfl
def J5 (zss : List (List Int)) : Prop := zss.length ≤ 3 ∧ ∀ z ∈ zss, z.length ≤ 5
set_option maxHeartbeats 3200000 in
set_option maxRecDepth 100000 in
theorem Hf {B g : Nat} {a : Option Addr} {len cap : Nat} {w : World} (h : Dr B g a len cap w) (r : Nat) (hr1 : 1 ≤ r) (hr3 : r ≤ 3) :
 Calls Tryz.prog 129 #[.pointer (some ⟨g, 0, none⟩), .int .i64 r] w (MF J5 B g a len cap w) := by
 have hlt := h.lt; obtain ⟨w1, hw1⟩ := ag (w.alloc (.cells #[] 33)); have hd1 : Dr B g a len cap w1 := by rw [hw1]; exact h.alloc _
 have hs1 : w1.heap.size = w.heap.size + 1 := by rw [hw1]; simp
 have hg1 : w.grownBy w1 (some g) := by rw [hw1]; exact World.grownBy_alloc w _ (some g)
 have hst1 : mO w1 w.heap.size (.slice (some ⟨w.heap.size, 0, none⟩) 0 0) [] [] := by rw [hw1]; exact ⟨bU.lit w, rfl, fun i hi => by simp at hi⟩
 have hbl := dG hd1 4 4 rfl (by omega) (by omega)
 have hww := ae hw1.symm; replace hw1 := ae hw1; replace hd1 := ae hd1; replace hst1 := ae hst1; replace hg1 := ae hg1; go_enter Tryz.func129, Tryz.ntmps129
 go_upto_region 2 with fail
 rw [hww.out]; go_wp2_with fail; refine hbl.mono ?_; rintro e w2 ⟨n0, ⟨n1, n2⟩, rfl, hg2, hd2⟩; obtain ⟨n, rfl⟩ := Int.eq_ofNat_of_zero_le n1; clear hbl; have hsz2 := hg2.size; have hst2 := ae (hst1.out.kept hg2 hlt); have hg02 := ae (aj hg1.out hg2); replace hd2 := ae hd2; replace hg2 := ae hg2; go_wp2_with fail
 go_loopg [5, 6] n (fun gg u k wr => k = .int .i64 (gg : Nat) ∧ gg ≤ n ∧ Hid (∃ us zss, mO wr w.heap.size u us zss ∧ zss.length + gg = n ∧ ∀ z ∈ zss, z.length ≤ 5) ∧ Hid (w.grownBy wr (some g)) ∧ Hid (Dr B g a len cap wr))
 case atStart => exact ⟨rfl, nl _, ae ⟨[], [], hst2.out, by simp, fun z hz => by cases hz⟩, hg02, hd2⟩
 case round =>
  clear hst2; obtain ⟨rfl, hgn, hst, hgr, hdr⟩ := hrel; obtain ⟨us, zss, hst3, hzl, hz5⟩ := hst.out; have hszr := hgr.out.size; obtain ⟨ua, ucp, rfl⟩ := bU.form hst3.1; have hvlt : ∀ k, Value.ownBlock (.slice ua us.length ucp) = some k → k < wr.heap.size := fun k hk => (World.ownsRow.lt hst3.1 k hk).2
  obtain ⟨nu, hnu⟩ := ag us.length; have hnz : nu ≤ 3 := by have := hst3.2.1; omega
  rw [← hnu] at hvlt hst3 ⊢; replace hz5 := ae hz5; replace hvlt := ae hvlt; by_cases hg0 : 0 < gk
  · have hgi : (0 : Int) < (gk : Int) := by omega
    have hof := zZ hdr.out r hr1 hr3 5 5 rfl (by omega)
    replace hst3 := ae hst3; replace hst := ae hst; replace hnu := ae hnu; replace hzl := ae hzl; go_wp2_with fail; refine hof.mono ?_; rintro e w3 ⟨uv, zs, hW, rfl, how3, hg3, hd3⟩; clear hof; have hsz3 := hg3.size; have hzs5 := hW.2.2; have hrow3 := how3.row (by omega)
    obtain ⟨va, vm, vc, rfl⟩ : ∃ a m c, uv = Value.slice a m c := by
     obtain ⟨_, ⟨h1, _⟩ | ⟨g, cap, cur, h1, _⟩⟩ := how3 <;> exact ⟨_, _, _, h1⟩
    have hst5 := hst3.out.kept hg3 hlt; have hw3 := aj hgr.out hg3; have hw3s := hw3.size; replace hW := ae hW; replace how3 := ae how3; replace hrow3 := ae hrow3; replace hst5 := ae hst5; replace hw3 := ae hw3; replace hd3 := ae hd3; replace hg3 := ae hg3; go_wp2_with (at_builtin; go_must (refine l7 rfl _ _ rfl w.heap.size (.slice ua nu ucp) us va vm vc rfl rfl (by exact hst5.out.1) (by have := hnu.out; omega) (by omega) ?_))
    intro v' w4 ho4 hg4 hl4; have hst6 := hst5.out.push hvlt.out hszr hrow3.out ho4 hg4 hl4; have hb4 : Below w.heap.size w3 w4 := ((Below.refl w.heap.size w3).alloc (by omega) _).grown hg4 (by simp; omega) (fun k hk => (World.ownsRow.lt hst5.out.1 k hk).1)
    have hw4 := ae (grown_below hw3.out hb4); have hd4 := ae (hd3.out.over hb4 hlt); have hrel' := ae (show ∃ us zss, mO w4 w.heap.size v' us zss ∧ zss.length + (gk - 1) = n ∧ ∀ z ∈ zss, z.length ≤ 5 from ⟨_, _, hst6, by have := hzl.out; simp; omega, fun z hz => by
     rcases List.mem_append.1 hz with h1 | h1
     · exact hz5.out z h1
     · rw [List.mem_singleton] at h1; rw [h1]; exact hzs5⟩)
    clear ho4 hg4 hl4 hst6 hb4; go_wp2; go_roundg (gk - 1)
    case rel => exact ⟨by go_num, by omega, hrel', hw4, hd4⟩
    case measure => omega
  · obtain rfl : gk = 0 := by omega
    have hfin : MF J5 B g a len cap w (.returned (.slice ua nu ucp)) wr := ⟨_, zss, ⟨by omega, hz5.out⟩, rfl, hst3.read (by omega), hgr.out, hdr.out⟩
    replace hfin := ae hfin; replace hst3 := ae hst3; replace hst := ae hst; go_wp2; go_ret; exact hfin.out
theorem BU {r : Int} {zss : List (List Int)} (hr : 1 ≤ r ∧ r ≤ 3) (hz : J5 zss) : nM (lS r zss) (mG r zss) (lg r zss) ∧ jF zss ≤ 15 := by
 have ht : jF zss ≤ 15 := by
  obtain ⟨h1, h2⟩ := hz
  match zss, h1, h2 with
  | [], _, _ => simp [jF, dP]
  | [x], _, h2 => have := h2 x (by simp); simp [jF, dP] <;> omega
  | [x, y], _, h2 => have := h2 x (by simp); have := h2 y (by simp); simp [jF, dP] <;> omega
  | [x, y, z], _, h2 => have := h2 x (by simp); have := h2 y (by simp); have := h2 z (by simp); simp [jF, dP] <;> omega
 have hl := rX r zss zss.length (nl _); rw [List.take_length] at hl; have hs : dP ((zss.map List.length).take zss.length) = jF zss := by rw [List.take_of_length_le (by simp)]
 refine ⟨⟨?_, ?_, ?_⟩, ht⟩
 · unfold lS; split <;> omega
 · unfold mG; split <;> omega
 · unfold lg; split
   · have := hl.2; rw [hs] at this; omega
   · simp
end Go.Proofs.YtgnomlcjikfdhaaGreat
namespace Go.Proofs.YtgnomlcjikfdhaaGreat
open Go.RowKit
set_option linter.unusedVariables false
set_option linter.unusedSimpArgs false
theorem A8 : (Tryz.prog.info? 126).map (fun i => (i.zero, i.size, i.bytes)) = some (some (.agg #[.int .i64 0, .int .i64 0]), 2, 16) := by kernel_rfl
theorem oQ : (Tryz.prog.info? 126).map (·.size) = some 2 := by kernel_rfl
open Go.RowKit Go.ChangeShapes Go.WideShapes Go.Deep
set_option maxRecDepth 100000
abbrev dB := Int × Int
def eH : dB := (0, 0)
def ik : List dB → List Int
 | [] => []
 | e :: es => e.1 :: e.2 :: ik es
theorem tC : ∀ es : List dB, (ik es).length = es.length * 2 := by
 intro es
 induction es with
 | nil => rfl
 | cons e es ih => simp only [ik, List.length_cons, ih]; omega
theorem uo (a b : List dB) : ik (a ++ b) = ik a ++ ik b := by
 induction a with
 | nil => rfl
 | cons e a ih => simp only [List.cons_append, ik, ih]
theorem Aq : ∀ (es : List dB) (i : Nat), i < es.length → (ik es).getD (i * 2) 0 = (es.getD i eH).1 ∧ (ik es).getD (i * 2 + 1) 0 = (es.getD i eH).2 := by
 intro es
 induction es with
 | nil => intro i h; simp at h
 | cons e es ih =>
  intro i h
  cases i with
  | zero => simp [ik]
  | succ i =>
   have := ih i (by simpa using h)
   rw [show (i + 1) * 2 = i * 2 + 1 + 1 by omega]
   simpa [ik] using this
def JY (es : List dB) : Prop := ∀ e ∈ es, (-9223372036854775808 ≤ e.1 ∧ e.1 ≤ 9223372036854775807) ∧ (-9223372036854775808 ≤ e.2 ∧ e.2 ≤ 9223372036854775807)
theorem JY.at_ {es : List dB} (h : JY es) {i : Nat} (hi : i < es.length) : (-9223372036854775808 ≤ (es.getD i eH).1 ∧ (es.getD i eH).1 ≤ 9223372036854775807) ∧ (-9223372036854775808 ≤ (es.getD i eH).2 ∧ (es.getD i eH).2 ≤ 9223372036854775807) := by
 apply h
 rw [gD, gE hi]; exact List.getElem_mem hi
abbrev yu (B : Nat) (w : World) (v : Value) (es : List dB) : Prop := jl 2 B w v es.length (ik es)
theorem yu.cells {B : Nat} {w : World} {a : Option Addr} {n cap : Nat} {es : List dB} (h : yu B w (.slice a n cap) es) (i : Nat) (hi : i < es.length) :
 ∃ b off, a = some ⟨b, off, none⟩ ∧ b < B ∧ w.cell? ⟨b, off + i * 2, none⟩ = some (.int .i64 (es.getD i eH).1) ∧ w.cell? ⟨b, off + i * 2 + 1, none⟩ = some (.int .i64 (es.getD i eH).2) := by
 obtain ⟨b, off, ha, hB, hc⟩ := h.at_ i hi; obtain ⟨h0, h1⟩ := Aq es i hi; have c0 := hc 0 (by omega)
 rw [Nat.add_zero, Nat.add_zero, h0] at c0; have c1 := hc 1 (by omega)
 rw [h1] at c1; exact ⟨b, off, ha, hB, c0, c1⟩
def wV (w : World) (a : Option Addr) (len cap : Nat) (es : List dB) : Prop :=
 (a = none ∧ len = 0 ∧ cap = 0 ∧ es = []) ∨ ∃ x, a = some x ∧ len ≤ cap ∧ cap ≤ maxLen ∧ es.length = len ∧ JY es ∧
  ∀ i, i < len → w.cell? (x.add (i * 2)) = some (.int .i64 (es.getD i eH).1) ∧ w.cell? (x.add (i * 2 + 1)) = some (.int .i64 (es.getD i eH).2)
theorem wV.len {w : World} {a : Option Addr} {len cap : Nat} {es : List dB} (h : wV w a len cap es) : es.length = len ∧ JY es ∧ (len : Int) ≤ 9223372036854775807 := by
 rcases h with ⟨_, rfl, _, rfl⟩ | ⟨x, _, h1, h2, h3, h4, _⟩
 · exact ⟨rfl, (fun e h => by cases h), by omega⟩
 · exact ⟨h3, h4, by unfold maxLen at h2; omega⟩
theorem wV.read {w : World} {a : Option Addr} {len cap : Nat} {es : List dB} (h : wV w a len cap es) (hl : len ≤ 1048576) : yu w.heap.size w (.slice a len cap) es := by
 rcases h with ⟨rfl, rfl, rfl, rfl⟩ | ⟨x, rfl, h1, h2, h3, h4, hc⟩
 · exact ⟨rfl, by simp, none, 0, rfl, ⟨fun _ => rfl, nl _⟩, .inl rfl⟩
 · refine ⟨tC es, by omega, some x, cap, by rw [h3], ⟨(fun e => by cases e), by omega⟩, ?_⟩
   rcases Nat.eq_zero_or_pos len with h0 | h0
   · left; omega
   · right
     have c0 := (hc 0 h0).1; obtain ⟨b, off, spot⟩ := x; have hspot : spot = none := by simpa [Addr.add] using World.cell?_spot c0
     subst hspot; refine ⟨b, off, rfl, ?_, fun k hk => ?_⟩
     · have c0' : w.cell? ⟨b, off, none⟩ = some (.int .i64 (es.getD 0 eH).1) := by simpa [Addr.add] using c0
       rcases Nat.lt_or_ge b w.heap.size with h1 | h1
       · exact h1
       · unfold World.cell? at c0'
         rw [show w.heap[(⟨b, off, none⟩ : Addr).block]? = none from Array.getElem?_eq_none h1] at c0'
         cases c0'
     · obtain ⟨i, j, hj, rfl⟩ : ∃ i j, j < 2 ∧ k = i * 2 + j := ⟨k / 2, k % 2, Nat.mod_lt _ (by omega), by omega⟩
       have hi : i < len := by omega
       obtain ⟨d0, d1⟩ := hc i hi; obtain ⟨g0, g1⟩ := Aq es i (by omega)
       have key : ∀ m z, w.cell? ((⟨b, off, none⟩ : Addr).add m) = some (.int .i64 z) → w.cell? ⟨b, off + m, none⟩ = some (.int .i64 z) := by
        intro m z hm; by_cases hm0 : m = 0
        · subst hm0; simpa [Addr.add] using hm
        · simpa [Addr.add, hm0] using hm
       have hjs : j = 0 ∨ j = 1 := by omega
       rcases hjs with rfl | rfl
       · rw [Nat.add_zero, g0]; exact key _ _ d0
       · rw [g1]; exact key _ _ d1
abbrev fF (w : World) (base : Nat) (v : Value) (es : List dB) : Prop := bG 126 2 w base v es.length (ik es)
theorem fF.litF (w : World) : fF (w.alloc (.cells #[] 126)) w.heap.size (.slice (some ⟨w.heap.size, 0, none⟩) 0 0) [] := bG.lit w
theorem oG {w0 : World} {ops : Array Oper} {rest : List Oper} {o : Oper} {a : Act} {Q : Exit → Act → World → Prop} (hgd : o.guard = none) (s x : Operand)
 (ho : o.op = .call { callee := .builtin .append, args := #[s, x], argTypes := #[90, 90] }) (base : Nat) (v : Value) (es : List dB) (x0 x1 : Int)
 (hs : a.eval s = v) (hx : a.eval x = .slice (some ⟨w0.heap.size, 0, none⟩) 1 1) (hown : fF w0 base v es) (hl : es.length ≤ 4000000000000) (hbase : base ≤ w0.heap.size)
 (h : ∀ v' w', fF w' base v' (es ++ [(x0, x1)]) → Below base w0 w' → wpList Tryz.prog ops Q rest (a.put o.dst v') w') :
 wpList Tryz.prog ops Q (o :: rest) a (w0.alloc (.cells #[.int .i64 x0, .int .i64 x1] 126)) := by
 obtain ⟨i0, hi, hz0, hz1, hz2⟩ := info_parts A8; refine wpList_append_own _ hgd s x 90 ho base 126 i0 _ 2 16 Tryz.underlying90 hi hz0 hz1 hz2 rfl (by decide) v es.length ((ik es).map iv) hs (World.ownsRow.alloc hown _) ⟨w0.heap.size, 0, none⟩ 1 1 [iv x0, iv x1] hx rfl ?_ ?_ ?_ ?_ ?_ ?_
 · intro j u hj
   have hk := heap_alloc_new w0 (.cells #[.int .i64 x0, .int .i64 x1] 126); rw [iy, Nat.zero_add]; have c := cell_of_heap hk j
   match j, hj with
   | 0, hj => simp at hj; subst hj; simp [iv]
   | 1, hj => simp at hj; subst hj; simp [iv]
 · intro u hu
   simp at hu
   rcases hu with rfl | rfl <;> rfl
 · unfold maxLen; omega
 · omega
 · simp; omega
 · intro v' w' ho' hg _
   refine h v' w' (by unfold fF bG; rw [uo]; simpa [ik] using ho') ?_
   exact ((Below.refl base w0).alloc hbase _).grown hg (by simp; omega) (fun k hk => (World.ownsRow.lt hown k hk).1)
theorem jV {w0 : World} {ops : Array Oper} {rest : List Oper} {o : Oper} {a : Act} {Q : Exit → Act → World → Prop} (hgd : o.guard = none) (s x : Operand)
 (ho : o.op = .call { callee := .builtin .append, args := #[s, x], argTypes := #[90, 90] }) (base : Nat) (v : Value) (es : List dB) (x0 x1 : Int)
 (hs : a.eval s = v) (hx : a.eval x = .slice (some ⟨w0.heap.size, 0, none⟩) 1 1) (hown : fF w0 base v es) (hl : es.length ≤ 4000000000000) (hbase : base ≤ w0.heap.size)
 (h : ∀ v' w', fF w' base v' (es ++ [(x0, x1)]) → (w0.alloc (.cells #[.int .i64 x0, .int .i64 x1] 126)).grownBy w' v.ownBlock → (v'.ownBlock = v.ownBlock ∨ v'.ownBlock = some (w0.heap.size + 1)) → wpList Tryz.prog ops Q rest (a.put o.dst v') w') :
 wpList Tryz.prog ops Q (o :: rest) a (w0.alloc (.cells #[.int .i64 x0, .int .i64 x1] 126)) := by
 obtain ⟨i0, hi, hz0, hz1, hz2⟩ := info_parts A8; refine wpList_append_own_at _ hgd s x 90 ho base 126 i0 _ 2 16 Tryz.underlying90 hi hz0 hz1 hz2 rfl (by decide) v es.length ((ik es).map iv) hs (World.ownsRow.alloc hown _) ⟨w0.heap.size, 0, none⟩ 1 1 [iv x0, iv x1] hx rfl ?_ ?_ ?_ ?_ ?_ ?_
 · intro j u hj
   have hk := heap_alloc_new w0 (.cells #[.int .i64 x0, .int .i64 x1] 126); rw [iy, Nat.zero_add]; have c := cell_of_heap hk j
   match j, hj with
   | 0, hj => simp at hj; subst hj; simp [iv]
   | 1, hj => simp at hj; subst hj; simp [iv]
 · intro u hu
   simp at hu
   rcases hu with rfl | rfl <;> rfl
 · unfold maxLen; omega
 · omega
 · simp; omega
 · intro v' w' ho' hg _ hw
   exact h v' w' (by unfold fF bG; rw [uo]; simpa [ik] using ho') hg (by simpa using hw)
end Go.Proofs.YtgnomlcjikfdhaaGreat
