import Derived.Lib.AppendZeros
import Derived.Lib.SliceRun
import Derived.Deep.RegionWith
import Derived.Deep.LoopGhost
import Derived.Test.YtgnomlcjikfdhaaGreatJ36Me
import Derived.Test.YtgnomlcjikfdhaaGreatJ21Me
import Derived.Test.YtgnomlcjikfdhaaGreatJ11Me
import Derived.Test.YtgnomlcjikfdhaaGreatJ0Me
import Derived.Test.YtgnomlcjikfdhaaGreatJ27Me
import Derived.Test.YtgnomlcjikfdhaaGreatJ3Me
import Derived.Test.YtgnomlcjikfdhaaGreatJ13Me
namespace Go.Proofs.YtgnomlcjikfdhaaGreat
open Go.RowKit
set_option linter.unusedVariables false
set_option linter.unusedSimpArgs false
theorem I7 : ∀ k, ∀ l ∈ bH k, l ≠ 0 := by
 intro k
 induction k with
 | zero => intro l h; cases h
 | succ k ih =>
  intro l h; rw [bH, List.mem_append] at h
  rcases h with h | h
  · exact ih l h
  · simp at h; omega
def EG (s : Int) (m : Nat) (p : Wa) : Prop := p.1.length ≤ m ∧ (∀ x ∈ p.1, -3 ≤ x ∧ x ≤ 3 ∧ x ≠ 0) ∧ 0 ≤ p.2 ∧ p.2 < s
def uz (ls : List Int) : Prop := ls.length ≤ 6 ∧ ∀ l ∈ ls, -3 ≤ l ∧ l ≤ 3 ∧ l ≠ 0
theorem wB {k : Nat} (h : k ≤ 3) : uz (bH k) := ⟨by rw [iU]; omega, fun l hl => by have := oL k l hl; have := I7 k l hl; omega⟩
theorem FP {r s : Int} {es : List Ed} {ls : List Int} (hfo : bJ r s es = true) (hls : uz ls) {m : Nat} {p q : Wa} (hp : EG s m p) (hq : q ∈ kids es ls p) : EG s (m + 1) q := by
 unfold bJ at hfo; rw [Bool.and_eq_true] at hfo; unfold kids at hq; rw [List.mem_flatMap] at hq; obtain ⟨l, hl, hq⟩ := hq; unfold dX at hq; split at hq
 · rename_i hc
   rw [List.mem_singleton] at hq; subst hq; have hl2 := hls.2 l hl; refine ⟨by have := hp.1; simp; omega, fun x hx => ?_, hc.1, ?_⟩
   · rcases List.mem_append.1 hx with hx | hx
     · exact hp.2.1 x hx
     · rw [List.mem_singleton] at hx; subst hx; exact hl2
   · rcases oZ hfo.1 hfo.2 (v := p.2) (l := l) (by omega) with h1 | h1
     · exact h1.2.2
     · have := hc.1; have := h1.1; omega
 · cases hq
theorem rJ {es : List Ed} {ls : List Int} (hls : ls.length ≤ 6) (p : Wa) : (kids es ls p).length ≤ 6 := by
 have h2 : ∀ L : List Int, (L.flatMap (dX es p)).length ≤ L.length := by
  intro L
  induction L with
  | nil => simp
  | cons a L ih =>
   rw [List.flatMap_cons, List.length_append, List.length_cons]; have : (dX es p a).length ≤ 1 := by unfold dX; split <;> simp
   omega
 have := h2 ls; unfold kids; omega
theorem oh {α β : Type} {f : α → List β} {n : Nat} (h : ∀ x, (f x).length ≤ n) : ∀ L : List α, (L.flatMap f).length ≤ n * L.length := by
 intro L
 induction L with
 | nil => simp
 | cons a L ih =>
  rw [List.flatMap_cons, List.length_append, List.length_cons, Nat.mul_succ]; have := h a; omega
theorem nD {es : List Ed} {ls : List Int} (hls : ls.length ≤ 6) (v : Int) (n : Nat) : (dC es ls v (n + 1)).length ≤ 6 * (dC es ls v n).length := oh (fun p => rJ hls p) _
theorem vT {es : List Ed} {ls : List Int} (hls : ls.length ≤ 6) (v : Int) {most : Nat} (hm : most ≤ 4) : (qA es ls v most).length ≤ 1555 ∧ (dC es ls v most).length ≤ 1296 := by
 have h0 : (dC es ls v 0).length = 1 := rfl; have h1 := nD (es := es) hls v 0; have h2 := nD (es := es) hls v 1; have h3 := nD (es := es) hls v 2; have h4 := nD (es := es) hls v 3; have hu : ∀ n, (qA es ls v (n + 1)).length = (qA es ls v n).length + (dC es ls v (n + 1)).length := fun n => by rw [qA, List.length_append]
 have u0 : (qA es ls v 0).length = 1 := rfl; have u1 := hu 0; have u2 := hu 1; have u3 := hu 2; have u4 := hu 3; have hc : most = 0 ∨ most = 1 ∨ most = 2 ∨ most = 3 ∨ most = 4 := by omega
 rcases hc with rfl | rfl | rfl | rfl | rfl
 · omega
 · simp only [Nat.zero_add] at h1 u1; omega
 · simp only [Nat.zero_add, Nat.reduceAdd] at h1 u1 h2 u2; omega
 · simp only [Nat.zero_add, Nat.reduceAdd] at h1 u1 h2 u2 h3 u3; omega
 · simp only [Nat.zero_add, Nat.reduceAdd] at h1 u1 h2 u2 h3 u3 h4 u4; omega
theorem J9 {es : List Ed} {ls : List Int} {v : Int} : ∀ n, ∀ p ∈ qA es ls v n, p.1.length ≤ n := by
 intro n
 induction n with
 | zero => intro p hp; have := rD 0 p hp; omega
 | succ n ih =>
  intro p hp; rw [qA, List.mem_append] at hp
  rcases hp with hp | hp
  · have := ih p hp; omega
  · have := rD (n + 1) p hp; omega
theorem MQ {m : Nat} : ∀ L : List (List Int), (∀ w ∈ L, w.length ≤ m) → dP (L.map List.length) ≤ m * L.length := by
 intro L
 induction L with
 | nil => intro _; simp [dP]
 | cons a L ih =>
  intro h; have h1 := h a List.mem_cons_self; have h2 := ih fun w hw => h w (List.mem_cons_of_mem _ hw)
  rw [List.map_cons, dP, List.length_cons, Nat.mul_succ]; omega
theorem Ir {es : List Ed} {ls : List Int} (hls : ls.length ≤ 6) (v : Int) {most : Nat} (hm : most ≤ 4) : (kz es ls v most).length ≤ 1555 ∧ dP ((kz es ls v most).map List.length) ≤ 6220 := by
 have h1 : (kz es ls v most).length ≤ 1555 := by
  unfold kz; rw [List.length_map]; have := List.length_filter_le (fun p : Wa => p.2 == v) (qA es ls v most)
  have := (vT (es := es) hls v hm).1; omega
 have h2 := MQ (m := most) (kz es ls v most) fun w hw => by
  unfold kz at hw; rw [List.mem_map] at hw; obtain ⟨p, hp, rfl⟩ := hw; exact J9 most p (List.mem_filter.1 hp).1
 refine ⟨h1, ?_⟩; have : most * (kz es ls v most).length ≤ 4 * 1555 := Nat.mul_le_mul hm h1; omega
def kY (r s : Int) (es : List Ed) (x m : Int) : List (List Int) := if bJ r s es = true ∧ (0 ≤ x ∧ x < s) ∧ 0 ≤ m ∧ m ≤ 4 then kz es (bH r.toNat) x m.toNat else []
theorem Ag (r s : Int) (es : List Ed) (x m : Int) : (kY r s es x m).length ≤ 1000000000 ∧ dP ((kY r s es x m).map List.length) ≤ 100000000 := by
 unfold kY; split
 · rename_i h
   have hfo := h.1; unfold bJ at hfo; rw [Bool.and_eq_true] at hfo; have hr := aZ hfo.1; have := Ir (es := es) (wB (k := r.toNat) (by omega)).1 x (most := m.toNat) (by omega)
   omega
 · simp [dP]
end Go.Proofs.YtgnomlcjikfdhaaGreat
namespace Go.Proofs.YtgnomlcjikfdhaaGreat
open Go.RowKit
set_option linter.unusedVariables false
set_option linter.unusedSimpArgs false
theorem IM {r s : Int} {es : List Ed} {ls : List Int} {v : Int} (hg : aK r s es = true) (hf : gq es es.length = true) (hls : uz ls) : ∀ n, ∀ p ∈ dC es ls v n, Rd es v p.1 p.2 := by
 intro n
 induction n with
 | zero => intro p hp; rw [dC, List.mem_singleton] at hp; rw [hp]; exact (rfl : v = v)
 | succ n ih =>
  intro p hp; rw [dC, List.mem_flatMap] at hp; obtain ⟨q, hq, hp⟩ := hp; unfold kids at hp; rw [List.mem_flatMap] at hp; obtain ⟨l, hl, hp⟩ := hp; have hl2 := hls.2 l hl; unfold dX at hp; split at hp
  · rename_i hc
    rw [List.mem_singleton] at hp; rw [hp]; refine lM.2 ⟨q.2, ih q hq, xW.2 ?_⟩
    rcases oZ hg hf (v := q.2) (l := l) (by omega) with h1 | h1
    · exact h1.1
    · have := hc.1; have := h1.1; omega
  · cases hp
theorem MP {es : List Ed} {ls : List Int} {v : Int} {p : Wa} : ∀ n, p ∈ qA es ls v n → ∃ k, k ≤ n ∧ p ∈ dC es ls v k := by
 intro n
 induction n with
 | zero => intro h; exact ⟨0, nl _, h⟩
 | succ n ih =>
  intro h; rw [qA, List.mem_append] at h
  rcases h with h | h
  · obtain ⟨k, h1, h2⟩ := ih h; exact ⟨k, by omega, h2⟩
  · exact ⟨n + 1, nl _, h⟩
theorem JX {r s : Int} {es : List Ed} (h : dL r s es = true) {z : List Int} (hz : z ∈ kY r s es 0 3) :
 bi z ∧ z.length ≤ 3 ∧ dF r s es z = true ∧ dF r s es (invL z) = true ∧ ∀ w, bi w → dF r s es (ry z w) = dF r s es w := by
 have hl := qE h; obtain ⟨hg, hf⟩ := yz h; unfold kY at hz; split at hz
 case isFalse => cases hz
 case isTrue hc =>
  unfold kz at hz; rw [List.mem_map] at hz; obtain ⟨p, hp, rfl⟩ := hz; rw [List.mem_filter, beq_iff_eq] at hp; obtain ⟨hp1, hp2⟩ := hp; have hlets := wB (k := r.toNat) (by omega)
  obtain ⟨k, hk, hp3⟩ := MP _ hp1; have hrd := IM (v := 0) hg hf hlets k p hp3; rw [hp2] at hrd; have hn := rD k p hp3; have hin : bi p.1 := fun x hx => by have := J7 hg hrd x hx; omega
  have hsu : dF r s es p.1 = true := (oq h hin).2 (Am hg hf hin hrd); exact ⟨hin, by omega, hsu, Na h hin hsu, fun w hw => Nk h hin hw hsu⟩
end Go.Proofs.YtgnomlcjikfdhaaGreat
namespace Go.Proofs.YtgnomlcjikfdhaaGreat
open Go.RowKit
set_option linter.unusedVariables false
set_option linter.unusedSimpArgs false
def nK (B : Nat) (w : World) (v : Value) (zss : List (List Int)) : Prop :=
 zss.length ≤ 140737488355328 ∧ ∃ a cap, v = .slice a zss.length cap ∧ (zss = [] ∨ ∃ b off, a = some ⟨b, off, none⟩ ∧ b < B ∧ ∀ i, i < zss.length → ∃ vi, w.cell? ⟨b, off + i, none⟩ = some vi ∧ bD B w vi (zss.getD i []))
theorem nK.below {B : Nat} {w w' : World} {v : Value} {zss : List (List Int)} (h : nK B w v zss) (hb : Below B w w') : nK B w' v zss := by
 obtain ⟨hl, a, cap, hv, hc⟩ := h; refine ⟨hl, a, cap, hv, hc.imp id ?_⟩; rintro ⟨b, off, ha, hB, hcell⟩; refine ⟨b, off, ha, hB, fun i hi => ?_⟩
 obtain ⟨vi, h1, h2⟩ := hcell i hi; exact ⟨vi, by rw [hb.cell (p := ⟨b, off + i, none⟩) hB]; exact h1, h2.below hb⟩
theorem nK.at_ {B : Nat} {w : World} {a : Option Addr} {n cap : Nat} {zss : List (List Int)} (h : nK B w (.slice a n cap) zss) (i : Nat) (hi : i < zss.length) :
 ∃ b off vi, a = some ⟨b, off, none⟩ ∧ b < B ∧ w.cell? ⟨b, off + i, none⟩ = some vi ∧ bD B w vi (zss.getD i []) := by
 obtain ⟨_, a', cap', hv, hr⟩ := h; simp only [Value.slice.injEq] at hv; obtain ⟨rfl, _, rfl⟩ := hv
 rcases hr with h0 | ⟨b, off, ha, hB, hc⟩
 · rw [h0] at hi; simp at hi
 · obtain ⟨vi, h1, h2⟩ := hc i hi
   exact ⟨b, off, vi, ha, hB, h1, h2⟩
theorem yj {zss : List (List Int)} {i : Nat} (h : i < zss.length) : zss.getD i [] = zss[i] := by rw [List.getD_eq_getElem?_getD, List.getElem?_eq_getElem h]; rfl
theorem take_flat {zss : List (List Int)} {k : Nat} (h : k < zss.length) : (zss.take (k + 1)).flatten = (zss.take k).flatten ++ zss.getD k [] := by
 rw [List.take_succ_eq_append_getElem h, List.flatten_append, yj h]; simp
theorem Ba (zss : List (List Int)) (k : Nat) : (zss.take k).flatten.length ≤ zss.flatten.length := by
 have : zss.flatten = (zss.take k).flatten ++ (zss.drop k).flatten := by rw [← List.flatten_append, List.take_append_drop]
 rw [this, List.length_append]; omega
end Go.Proofs.YtgnomlcjikfdhaaGreat
namespace Go.Proofs.YtgnomlcjikfdhaaGreat
open Go.RowKit Go.Maps
set_option linter.unusedVariables false
set_option linter.unusedSimpArgs false
def jJ (w : World) (lo : Nat) (v : Value) (P : List (Value × Wa)) : Prop :=
 (∀ p ∈ P, bg w lo w.heap.size p.1 p.2.1 ∧ ∀ b, p.1.ownBlock = some b → v.ownBlock ≠ some b) ∧ P.Pairwise (fun p q => ∀ b c, p.1.ownBlock = some b → q.1.ownBlock = some c → b < c)
theorem jJ.keep {w w' : World} {lo : Nat} {v v' : Value} {P : List (Value × Wa)} (h : jJ w lo v P) (hsz : w.heap.size ≤ w'.heap.size) (hb : ∀ b, b < w.heap.size → v.ownBlock ≠ some b → w'.heap[b]? = w.heap[b]?)
 (hv : v'.ownBlock = v.ownBlock ∨ ∃ n, v'.ownBlock = some n ∧ w.heap.size ≤ n) : jJ w' lo v' P := by
 refine ⟨fun p hp => ?_, h.2⟩
 obtain ⟨h1, h2⟩ := h.1 p hp; refine ⟨?_, fun b hb' => ?_⟩
 · rcases h1.block with ⟨e1, e2⟩ | ⟨c, e1, e2, e3, e4⟩
   · rw [e1, e2]; exact ⟨by simp, .inl ⟨rfl, rfl⟩⟩
   · exact (e4.keep fun k q1 q2 => by
      obtain rfl : k = c := by omega
      exact hb k e3 (h2 k e1)).wide e2 (by omega)
 · rcases h1.block with ⟨e1, e2⟩ | ⟨c, e1, e2, e3, e4⟩
   · rw [e1] at hb'; cases hb'
   · rw [e1] at hb'
     cases hb'
     rcases hv with hv | ⟨n, hv, hn⟩
     · rw [hv]; exact h2 _ e1
     · rw [hv]; simp; omega
theorem jJ.snoc {w : World} {lo : Nat} {v u : Value} {P : List (Value × Wa)} {k : Wa} {s : Nat} (h : jJ w lo v P) (hP : ∀ p ∈ P, ∀ b, p.1.ownBlock = some b → b < s) (hu : bg w s w.heap.size u k.1) (hlo : lo ≤ s) (hne : ∀ b, u.ownBlock = some b → v.ownBlock ≠ some b) : jJ w lo v (P ++ [(u, k)]) := by
 refine ⟨fun p hp => ?_, ?_⟩
 · rcases List.mem_append.1 hp with hp | hp
   · exact h.1 p hp
   · rw [List.mem_singleton] at hp
     subst hp; exact ⟨hu.wide hlo (nl _), hne⟩
 · rw [List.pairwise_append]
   refine ⟨h.2, List.pairwise_singleton _ _, fun p hp q hq b c hb hc => ?_⟩
   rw [List.mem_singleton] at hq; subst hq; have := hP p hp b hb
   rcases hu.block with ⟨e1, _⟩ | ⟨d, e1, e2, e3, _⟩
   · rw [e1] at hc; cases hc
   · rw [e1] at hc; cases hc; omega
end Go.Proofs.YtgnomlcjikfdhaaGreat
namespace Go.Proofs.YtgnomlcjikfdhaaGreat
open Go.RowKit
set_option linter.unusedVariables false
set_option linter.unusedSimpArgs false
theorem Cj {wd : List Int} {l : Int} (h : wd ≠ []) : nJ wd l = decide (l ≠ -(wd.getD (wd.length - 1) 0)) := by
 unfold nJ; rw [List.getLast?_eq_getElem?, gD]; have hlt : wd.length - 1 < wd.length := by have := List.length_pos_iff.2 h; omega
 rw [gE hlt]; rfl
theorem nI {U : List (Value × Wa)} {i : Nat} (hi : i < U.length) : (U.map (·.1)).getD i undef = U[i].1 ∧ (U.map (·.2.1)).getD i [] = U[i].2.1 := by
 constructor <;> rw [gD, List.getElem?_map, gE hi] <;> rfl
theorem jJ.lt {w : World} {lo : Nat} {v : Value} {P : List (Value × Wa)} (h : jJ w lo v P) : ∀ p ∈ P, ∀ b, p.1.ownBlock = some b → lo ≤ b ∧ b < w.heap.size := fun p hp b hpb => by
 rcases (h.1 p hp).1.block with ⟨e1, _⟩ | ⟨c, e1, e2, e3, _⟩
 · rw [e1] at hpb; cases hpb
 · rw [e1] at hpb; cases hpb; exact ⟨e2, e3⟩
theorem jJ.keep2 {w w' : World} {lo : Nat} {v : Value} {P : List (Value × Wa)} (h : jJ w lo v P) (hsz : w.heap.size ≤ w'.heap.size) (hb : ∀ p ∈ P, ∀ b, p.1.ownBlock = some b → b < w.heap.size → w'.heap[b]? = w.heap[b]?) : jJ w' lo v P := by
 refine ⟨fun p hp => ⟨?_, (h.1 p hp).2⟩, h.2⟩
 rcases (h.1 p hp).1.block with ⟨e1, e2⟩ | ⟨c, e1, e2, e3, e4⟩
 · rw [e1, e2]; exact ⟨by simp, .inl ⟨rfl, rfl⟩⟩
 · exact (e4.keep fun k q1 q2 => by
    obtain rfl : k = c := by omega
    exact hb p hp k e1 e3).wide e2 (by omega)
end Go.Proofs.YtgnomlcjikfdhaaGreat
