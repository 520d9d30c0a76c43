import Derived.Deep.LoopGhost
import Derived.Deep.Cut
import Derived.Test.YtgnomlcjikfdhaaGreatJ15Me
import Derived.Test.YtgnomlcjikfdhaaGreatJ4Me
import Derived.Test.YtgnomlcjikfdhaaGreatJ1Me
import Derived.Test.YtgnomlcjikfdhaaGreatJ2Me
namespace Go.Proofs.YtgnomlcjikfdhaaGreat
open Go.RowKit
set_option linter.unusedVariables false
set_option linter.unusedSimpArgs false
def eu (a b : Ed) : List dB :=
 (if a.2.1 = b.2.1 ∧ a.1 = b.1 then [(min a.2.2 b.2.2, max a.2.2 b.2.2)] else []) ++ (if a.2.1 = b.2.1 ∧ a.2.2 = b.2.2 then [(min a.1 b.1, max a.1 b.1)] else [])
def iF (es : List Ed) (i : Nat) : Nat → List dB
 | 0 => []
 | d + 1 => iF es i d ++ eu (es.getD i e0) (es.getD (i + 1 + d) e0)
def fO (es : List Ed) : Nat → List dB
 | 0 => []
 | i + 1 => fO es i ++ iF es i (es.length - (i + 1))
def bY (es : List Ed) : List dB := fO es es.length
theorem pairF_length (a b : Ed) : (eu a b).length ≤ 2 := by unfold eu; split <;> split <;> simp
theorem rowF_length (es : List Ed) (i : Nat) : ∀ d, (iF es i d).length ≤ 2 * d := by
 intro d
 induction d with
 | zero => simp [iF]
 | succ d ih => rw [iF, List.length_append]; have := pairF_length (es.getD i e0) (es.getD (i + 1 + d) e0); omega
theorem allF_length (es : List Ed) : ∀ n, n ≤ es.length → (fO es n).length ≤ 2 * (n * es.length) := by
 intro n
 induction n with
 | zero => intro _; simp [fO]
 | succ n ih =>
  intro h
  rw [fO, List.length_append]
  have h1 := ih (by omega)
  have h2 := rowF_length es n (es.length - (n + 1))
  have h3 : (n + 1) * es.length = n * es.length + es.length := Nat.succ_mul _ _
  have h4 : 2 * ((n + 1) * es.length) = 2 * (n * es.length) + 2 * es.length := by rw [h3, Nat.mul_add]
  omega
theorem foldsF_length (es : List Ed) : (bY es).length ≤ 2 * (es.length * es.length) := allF_length es es.length (nl _)
def iL (k d v : Int) : Int := if (if v = d then k else v) > d then (if v = d then k else v) - 1 else (if v = d then k else v)
def Em (k d : Int) (e : Ed) : Ed := (iL k d e.1, e.2.1, iL k d e.2.2)
def gQ (k d : Int) (es : List Ed) : Nat → List Ed
 | 0 => []
 | i + 1 => dE (Em k d (es.getD i e0)) (gQ k d es i)
theorem sQ (k d : Int) (es : List Ed) : ∀ i, (gQ k d es i).length ≤ i := by
 intro i
 induction i with
 | zero => simp [gQ]
 | succ i ih => rw [gQ]; have := je (Em k d (es.getD i e0)) (gQ k d es i); omega
def qM (k d : Int) (es : List Ed) : List Ed := gQ k d es es.length
theorem sO (k d : Int) (es : List Ed) : (qM k d es).length ≤ es.length := sQ k d es es.length
def uk (r s : Int) (es : List Ed) (f : dB) : Bool := aK r s es && decide (0 ≤ f.1 ∧ f.1 < f.2 ∧ f.2 < s)
def tK (r s : Int) (es : List Ed) (f : dB) : Int := if uk r s es f = true then s - 1 else s
def sZ (r s : Int) (es : List Ed) (f : dB) : List Ed := if uk r s es f = true then qM f.1 f.2 es else es
theorem mrE_length (r s : Int) (es : List Ed) (f : dB) : (sZ r s es f).length ≤ es.length := by
 unfold sZ
 split
 · exact sO _ _ _
 · exact nl _
def kN (r s : Int) (es : List Ed) : Bool := aK r s es && decide ((bY es).length ≠ 0)
def qR (r s : Int) (es : List Ed) : dB := if kN r s es = true then (bY es).getD 0 eH else eH
def yf (r s : Int) (es : List Ed) : Int := if kN r s es = true then tK r s es (qR r s es) else s
def onE (r s : Int) (es : List Ed) : List Ed := if kN r s es = true then sZ r s es (qR r s es) else es
theorem onE_length (r s : Int) (es : List Ed) : (onE r s es).length ≤ es.length := by
 unfold onE
 split
 · exact mrE_length _ _ _ _
 · exact nl _
structure FoldSt where
 s : Int
 es : List Ed
 l : List dB
def dZ (r s : Int) (es : List Ed) : Nat → FoldSt
 | 0 => ⟨s, es, []⟩
 | i + 1 => if kN r (dZ r s es i).s (dZ r s es i).es = true then ⟨yf r (dZ r s es i).s (dZ r s es i).es, onE r (dZ r s es i).s (dZ r s es i).es, (dZ r s es i).l ++ [qR r (dZ r s es i).s (dZ r s es i).es]⟩ else dZ r s es i
theorem KH (r s : Int) (es : List Ed) : ∀ i, (dZ r s es i).es.length ≤ es.length ∧ (dZ r s es i).l.length ≤ i := by
 intro i
 induction i with
 | zero => exact ⟨nl _, nl _⟩
 | succ i ih =>
  rw [dZ]
  split
  · have := onE_length r (dZ r s es i).s (dZ r s es i).es
    simp only [List.length_append, List.length_singleton]
    omega
  · omega
theorem BC (r s : Int) (es : List Ed) {i : Nat} (h : kN r (dZ r s es i).s (dZ r s es i).es = false) : ∀ j, dZ r s es (i + j) = dZ r s es i := by
 intro j
 induction j with
 | zero => rfl
 | succ j ih => rw [← Nat.add_assoc, dZ, ih, h]; simp
def kR (r s : Int) (es : List Ed) : Int := (dZ r s es 40).s
def kQ (r s : Int) (es : List Ed) : List Ed := (dZ r s es 40).es
def DD (r s : Int) (es : List Ed) : List dB := (dZ r s es 40).l
def uh (cs : List Int) (i n : Nat) : Nat := if i < cs.length ∧ 0 < cs.getD i 0 then (cs.getD i 0 % (n : Int)).toNat else 0
def dI (r s : Int) (es : List Ed) (cs : List Int) : Nat → FoldSt
 | 0 => ⟨s, es, []⟩
 | i + 1 => if (bY (dI r s es cs i).es).length = 0 then dI r s es cs i else
  ⟨tK r (dI r s es cs i).s (dI r s es cs i).es ((bY (dI r s es cs i).es).getD (uh cs i (bY (dI r s es cs i).es).length) eH),
   sZ r (dI r s es cs i).s (dI r s es cs i).es ((bY (dI r s es cs i).es).getD (uh cs i (bY (dI r s es cs i).es).length) eH),
   (dI r s es cs i).l ++ [(bY (dI r s es cs i).es).getD (uh cs i (bY (dI r s es cs i).es).length) eH]⟩
theorem LV (r s : Int) (es : List Ed) (cs : List Int) : ∀ i, (dI r s es cs i).es.length ≤ es.length ∧ (dI r s es cs i).l.length ≤ i := by
 intro i
 induction i with
 | zero => exact ⟨nl _, nl _⟩
 | succ i ih =>
  rw [dI]
  split
  · omega
  · have := mrE_length r (dI r s es cs i).s (dI r s es cs i).es ((bY (dI r s es cs i).es).getD (uh cs i (bY (dI r s es cs i).es).length) eH)
    simp only [List.length_append, List.length_singleton]
    omega
theorem Io (r s : Int) (es : List Ed) (cs : List Int) {i : Nat} (h : (bY (dI r s es cs i).es).length = 0) : ∀ j, dI r s es cs (i + j) = dI r s es cs i := by
 intro j
 induction j with
 | zero => rfl
 | succ j ih => rw [← Nat.add_assoc, dI, ih, if_pos h]
def Ho (r s : Int) (es : List Ed) (cs : List Int) : Int := if aK r s es = true then (dI r s es cs 40).s else s
def BM (r s : Int) (es : List Ed) (cs : List Int) : List Ed := if aK r s es = true then (dI r s es cs 40).es else es
def NU (r s : Int) (es : List Ed) (cs : List Int) : List dB := if aK r s es = true then (dI r s es cs 40).l else []
theorem oM (w : World) (v k d : Int) (hv : -9223372036854775807 ≤ v ∧ v ≤ 9223372036854775807) (hk : -9223372036854775807 ≤ k ∧ k ≤ 9223372036854775807) :
 Calls Tryz.prog 160 #[.int .i64 v, .agg #[.int .i64 k, .int .i64 d]] w (kK w (iL k d v)) := by
 obtain ⟨w1, hw1⟩ := ag (w.alloc (.cells #[.int .i64 k, .int .i64 d] 126))
 have hb1 : Below w.heap.size w w1 := by rw [hw1]; exact (Below.refl _ _).alloc (nl _) _
 have hk1 := heap_alloc_new w (.cells #[.int .i64 k, .int .i64 d] 126)
 rw [← hw1] at hk1
 have c0 := cell_of_heap hk1 0
 have c1 := cell_of_heap hk1 1
 simp at c0 c1
 obtain ⟨R, hR⟩ := ag (iL k d v)
 rw [← hR]
 replace hk1 := ae hk1
 by_cases h1 : v = d
 · have t1 : (v == d) = true := by rw [beq_iff_eq]; exact h1
   by_cases h2 : k > d
   · have hsub : IntKind.i64.wrap (k - 1) = k - 1 := IntWalk.i64_in _ (by omega)
     have hRe : R = k - 1 := by rw [hR]; unfold iL; rw [if_pos h1, if_pos h2]
     have hr : kK w R (.returned (.int .i64 (k - 1))) w1 := ⟨fZ hRe.symm, hb1⟩
     replace hR := ae hR
     replace hRe := ae hRe
     replace hr := ae hr
     replace h1 := ae h1
     go_enter Tryz.func160, Tryz.ntmps160
     go_wp2_with fail
     rw [← hw1]
     replace hw1 := ae hw1
     go_wp2
     go_ret
     exact hr.out
   · have hRe : R = k := by rw [hR]; unfold iL; rw [if_pos h1, if_neg h2]
     have hr : kK w R (.returned (.int .i64 k)) w1 := ⟨fZ hRe.symm, hb1⟩
     replace hR := ae hR
     replace hRe := ae hRe
     replace hr := ae hr
     replace h1 := ae h1
     go_enter Tryz.func160, Tryz.ntmps160
     go_wp2_with fail
     rw [← hw1]
     replace hw1 := ae hw1
     go_wp2
     go_ret
     exact hr.out
 · have t1 : (v == d) = false := by rw [beq_eq_false_iff_ne]; exact h1
   by_cases h2 : v > d
   · have hsub : IntKind.i64.wrap (v - 1) = v - 1 := IntWalk.i64_in _ (by omega)
     have hRe : R = v - 1 := by rw [hR]; unfold iL; rw [if_neg h1, if_pos h2]
     have hr : kK w R (.returned (.int .i64 (v - 1))) w1 := ⟨fZ hRe.symm, hb1⟩
     replace hR := ae hR
     replace hRe := ae hRe
     replace hr := ae hr
     replace h1 := ae h1
     go_enter Tryz.func160, Tryz.ntmps160
     go_wp2_with fail
     rw [← hw1]
     replace hw1 := ae hw1
     go_wp2
     go_ret
     exact hr.out
   · have hRe : R = v := by rw [hR]; unfold iL; rw [if_neg h1, if_neg h2]
     have hr : kK w R (.returned (.int .i64 v)) w1 := ⟨fZ hRe.symm, hb1⟩
     replace hR := ae hR
     replace hRe := ae hRe
     replace hr := ae hr
     replace h1 := ae h1
     go_enter Tryz.func160, Tryz.ntmps160
     go_wp2_with fail
     rw [← hw1]
     replace hw1 := ae hw1
     go_wp2
     go_ret
     exact hr.out
def LwFolds (w : World) (l : List dB) (e : Ending) (w' : World) : Prop :=
 ∃ a cap, e = .returned (.slice a l.length cap) ∧ aF 126 2 w' w.heap.size w'.heap.size (.slice a l.length cap) l.length (ik l) ∧ Below w.heap.size w w'
theorem bZ {w w' : World} {X : Obj} {v val : Value} {b j : Nat} (h : w.cell? ⟨b, j, none⟩ = some val) (hg : (w.alloc X).grownBy w' v.ownBlock) (hb : b < w.heap.size) (hne : v.ownBlock ≠ some b) : w'.cell? ⟨b, j, none⟩ = some val :=
 (World.cell?_of_block (w := w) (by show w'.heap[b]? = w.heap[b]?; rw [hg.block b (by simp; omega) (fun e => hne e.symm), heap_alloc_old _ _ hb])).trans h
theorem allF_next {es : List Ed} {k : Nat} : fO es (k + 1) = fO es k ++ iF es k (es.length - (k + 1)) := rfl
set_option maxRecDepth 100000 in
set_option maxHeartbeats 6400000 in
theorem specFolds (w : World) (r s : Int) (v : Value) (es : List Ed) (h : ay w.heap.size w v es) (hl : es.length ≤ 1048576) :
 Calls Tryz.prog 159 #[.agg #[.int .i64 r, .int .i64 s, v]] w (LwFolds w (bY es)) := by
 obtain ⟨a, cap, rfl, hnc⟩ := h.form
 obtain ⟨n, hn⟩ := ag es.length
 have hnn : 2 * (n * n) ≤ 2199023255552 := by
  have : n * n ≤ 1048576 * 1048576 := Nat.mul_le_mul (by omega) (by omega)
  omega
 rw [← hn] at hl hnc ⊢
 rw [← hn] at h
 obtain ⟨w0, hw0⟩ := ag (w.alloc (.cells #[.int .i64 r, .int .i64 s, .slice a n cap] 26))
 have hb0 : Below w.heap.size w w0 := by rw [hw0]; exact (Below.refl _ _).alloc (nl _) _
 have hs0 : w.heap.size < w0.heap.size := by rw [hw0]; simp
 obtain ⟨g0, g1, g2⟩ := bT hw0
 have hrd := ae (h.below hb0)
 obtain ⟨w1, hw1⟩ := ag (w0.alloc (.cells #[] 126))
 have hown0 : Hid (fF w1 w0.heap.size (.slice (some ⟨w0.heap.size, 0, none⟩) 0 0) (fO es 0)) := by rw [hw1]; exact ae (fF.litF w0)
 have hbb0 := ae (show Below w0.heap.size w0 w1 by rw [hw1]; exact (Below.refl _ _).alloc (nl _) _)
 have hA := fun k (hk : k ≤ es.length) => allF_length es k hk
 have hR := rowF_length es
 obtain ⟨R, hRR⟩ := ag (bY es)
 rw [← hRR]
 have hfin : fO es n = R := by rw [hRR, hn]; rfl
 replace hfin := ae hfin
 replace hRR := ae hRR
 replace hA := ae hA
 replace hR := ae hR
 replace hn := ae hn
 replace h := ae h
 clear g0 g1
 go_enter Tryz.func159, Tryz.ntmps159
 go_upto_region 1 with fail
 rw [← hw0]
 replace hw0 := ae hw0
 go_upto_region 2 with fail
 rw [← hw1]
 replace hw1 := ae hw1
 go_wp2
 go_loopg [3, 4, 5, 6, 7] n (fun g o i q5 q6 q7 wr => ∃ k : Nat, k + g = n ∧ i = .int .i64 k ∧ Hid (fF wr w0.heap.size o (fO es k)) ∧ Hid (Below w0.heap.size w0 wr))
 case atStart => exact ⟨0, by omega, rfl, hown0, hbb0⟩
 case round =>
  clear hown0 hbb0
  obtain ⟨k, hk, rfl, hown, hb⟩ := hrel
  have p2 := af g2 hb.out hs0
  obtain ⟨a3, m3, c3, rfl⟩ := hown.out.form3
  by_cases hlt : k < n
  · have hki : (k : Int) < (n : Int) := by omega
    have hin0 := ae (show fF wr w0.heap.size (.slice a3 m3 c3) (fO es k ++ iF es k 0) by rw [iF, List.append_nil]; exact hown.out)
    obtain ⟨M, hM⟩ := ag (n - (k + 1))
    have hAk : (fO es k).length ≤ 2 * (k * n) := by have := hA.out k (by have := hn.out; omega); rw [← hn.out] at this; exact this
    have hkn : k * n + n ≤ n * n := by
     have : (k + 1) * n ≤ n * n := Nat.mul_le_mul_right _ (by omega)
     rw [Nat.succ_mul] at this; omega
    replace hM := ae hM
    replace hk := ae hk
    clear hown
    go_wp2
    go_loopg [3, 5, 6, 7] M (fun g o kk q6 q7 wr => ∃ d : Nat, d + g = M ∧ kk = .int .i64 ((k : Int) + 1 + d) ∧ Hid (fF wr w0.heap.size o (fO es k ++ iF es k d)) ∧ Hid (Below w0.heap.size w0 wr))
    case atStart => exact ⟨0, by omega, by simp, hin0, hb⟩
    case round =>
     clear hin0 hb p2
     obtain ⟨d, hd, rfl, hown, hb⟩ := hrel
     have p2 := af g2 hb.out hs0
     obtain ⟨a3, m3, c3, rfl⟩ := hown.out.form3
     by_cases hlt2 : d < M
     · have hkd : k + 1 + d < n := by have := hM.out; omega
       have hdi : (k : Int) + 1 + (d : Int) < (n : Int) := by omega
       have hread := hrd.out.below (hb.out.mono (Nat.le_of_lt hs0))
       obtain ⟨b, off, hab, hB, x0, x1, x2⟩ := ay.at3 hread k (by have := hn.out; omega)
       obtain ⟨b', off', hab', hB', y0, y1, y2⟩ := ay.at3 hread (k + 1 + d) (by have := hn.out; omega)
       subst hab
       simp only [Option.some.injEq, Addr.mk.injEq, and_true] at hab'
       obtain ⟨rfl, rfl⟩ := hab'
       have hnx : fO es k ++ iF es k (d + 1) = (fO es k ++ iF es k d) ++ eu (es.getD k e0) (es.getD (k + 1 + d) e0) := by rw [iF, List.append_assoc]
       obtain ⟨L, hL⟩ := ag (fO es k ++ iF es k d)
       have hLl : L.length ≤ 3000000000000 := by
        have := hR.out k d
        rw [hL, List.length_append]
        have := hM.out
        omega
       rw [← hL] at hown hnx
       obtain ⟨f, hf⟩ := ag ((es.getD k e0).1)
       obtain ⟨l, hll⟩ := ag ((es.getD k e0).2.1)
       obtain ⟨t, ht⟩ := ag ((es.getD k e0).2.2)
       obtain ⟨f', hf'⟩ : ∃ z, z = (es.getD (k + 1 + d) e0).1 := ⟨_, rfl⟩
       obtain ⟨l', hll'⟩ : ∃ z, z = (es.getD (k + 1 + d) e0).2.1 := ⟨_, rfl⟩
       obtain ⟨t', ht'⟩ : ∃ z, z = (es.getD (k + 1 + d) e0).2.2 := ⟨_, rfl⟩
       rw [← hf] at x0
       rw [← hll] at x1
       rw [← ht] at x2
       rw [← hf'] at y0
       rw [← hll'] at y1
       rw [← ht'] at y2
       have hnx2 : fO es k ++ iF es k (d + 1) = L ++ eu (f, l, t) (f', l', t') := by rw [hnx, hf, hll, ht, hf', hll', ht']
       have hidx : off + (k + 1 + d) * 3 = off + (k + 1 + d) * 3 := rfl
       obtain ⟨w2, hw2⟩ := ag (wr.alloc (.cells #[.int .i64 f, .int .i64 l, .int .i64 t] 36))
       have hb2 : Below wr.heap.size wr w2 := by rw [hw2]; exact (Below.refl _ _).alloc (nl _) _
       have hs2 : w2.heap.size = wr.heap.size + 1 := by rw [hw2]; simp
       obtain ⟨a0, a1, a2⟩ := bT hw2
       obtain ⟨w3, hw3⟩ := ag (w2.alloc (.cells #[.int .i64 f', .int .i64 l', .int .i64 t'] 36))
       have hb3 : Below w2.heap.size w2 w3 := by rw [hw3]; exact (Below.refl _ _).alloc (nl _) _
       obtain ⟨b0, b1, b2⟩ := bT hw3
       have hs3 : w3.heap.size = w2.heap.size + 1 := by rw [hw3]; simp
       have hlta : wr.heap.size < w2.heap.size := by omega
       replace a0 := af a0 hb3 hlta
       replace a1 := af a1 hb3 hlta
       replace a2 := af a2 hb3 hlta
       have hb23 : Below wr.heap.size wr w3 := hb2.trans (hb3.mono (by omega))
       have hwlt := World.ownsRow.lt hown.out
       have hown3 := ae (hown.out.later hb23 (nl _))
       have hbz := ae (show Below w0.heap.size w0 w3 from hb.out.trans (hb23.mono hb.out.size))
       have hneA : Value.ownBlock (.slice a3 m3 c3) ≠ some wr.heap.size := fun e => by have := (hwlt _ e).2; omega
       have hneB : Value.ownBlock (.slice a3 m3 c3) ≠ some w2.heap.size := fun e => by have := (hwlt _ e).2; omega
       have hltb : w2.heap.size < w3.heap.size := by omega
       have hlta3 : wr.heap.size < w3.heap.size := by omega
       have y0' := af y0 hb2 (by have := hb.out.size; omega)
       have y1' := af y1 hb2 (by have := hb.out.size; omega)
       have y2' := af y2 hb2 (by have := hb.out.size; omega)
       have p2' := af p2 hb2 (by have := hb.out.size; omega)
       replace hf := ae hf
       replace hll := ae hll
       replace ht := ae ht
       replace hf' := ae hf'
       replace hll' := ae hll'
       replace ht' := ae ht'
       replace hnx := ae hnx
       replace hnx2 := ae hnx2
       replace hL := ae hL
       replace hd := ae hd
       replace hread := ae hread
       replace hwlt := ae hwlt
       replace hneA := ae hneA
       replace hneB := ae hneB
       replace hs2 := ae hs2
       replace hs3 := ae hs3
       replace hb2 := ae hb2
       replace hb3 := ae hb3
       replace hb23 := ae hb23
       go_upto_region 9 with fail
       rw [← hw2]
       replace hw2 := ae hw2
       go_upto_region 10 with fail
       rw [← hw3]
       replace hw3 := ae hw3
       clear y0' y1' y2' p2' x0 x1 x2 y0 y1 y2
       by_cases q1 : l = l'
       case neg =>
        have q1t : (l == l') = false := by rw [beq_eq_false_iff_ne]; exact q1
        have hpf : eu (f, l, t) (f', l', t') = [] := by unfold eu; rw [if_neg (fun h => q1 h.1), if_neg (fun h => q1 h.1)]; rfl
        replace hpf := ae hpf
        replace q1 := ae q1
        have hown9 := ae (show fF _ w0.heap.size _ (fO es k ++ iF es k (d + 1)) by rw [hnx2.out]; rw [hpf.out, List.append_nil]; exact hown3.out)
        go_wp2
        go_roundg (M - (d + 1))
        case rel => exact ⟨d + 1, by have := hd.out; omega, by go_num, hown9, hbz⟩
        case measure => have := hd.out; omega
       have q1t : (l == l') = true := by rw [beq_iff_eq]; exact q1
       by_cases q2 : f = f'
       case pos =>
        by_cases q3 : t = t'
        case pos =>
         subst q2 q3
         have q2t : (f == f) = true := by simp
         have q3t : (t == t) = true := by simp
         have hpf : eu (f, l, t) (f, l', t) = [(t, t), (f, f)] := by unfold eu; rw [if_pos ⟨q1, rfl⟩, if_pos ⟨q1, rfl⟩]; simp
         replace hpf := ae hpf
         replace q1 := ae q1
         go_wp2_with (at_builtin; go_must (refine jV rfl _ _ rfl w0.heap.size (.slice a3 m3 c3) L _ _ rfl rfl (by exact hown3.out) (by omega) hbz.out.size ?_))
         intro v4 w4 hown4 hg4 hloc4
         obtain ⟨a4, m4, c4, rfl⟩ := hown4.form3
         have hown4 := ae hown4
         have hbz4 := ae (show Below w0.heap.size w0 w4 from (hbz.out.alloc hbz.out.size _).grown hg4 (by have := hbz.out.size; simp; omega) (fun q hq => (World.ownsRow.lt hown3.out q hq).1))
         replace a0 := bZ a0 hg4 hlta3 hneA.out
         replace a1 := bZ a1 hg4 hlta3 hneA.out
         replace a2 := bZ a2 hg4 hlta3 hneA.out
         replace b0 := bZ b0 hg4 hltb hneB.out
         replace b1 := bZ b1 hg4 hltb hneB.out
         replace b2 := bZ b2 hg4 hltb hneB.out
         clear hg4 hloc4
         go_wp2_with (at_builtin; go_must (refine oG rfl _ _ rfl w0.heap.size _ (L ++ [(t, t)]) _ _ rfl rfl (by exact hown4.out) (by simp; omega) hbz4.out.size ?_))
         intro v5 w5 hown5 hb5
         obtain ⟨a5, m5, c5, rfl⟩ := hown5.form3
         have hown5 := ae hown5
         replace hb5 := ae (hbz4.out.trans hb5)
         have hown9 := ae (show fF _ w0.heap.size _ (fO es k ++ iF es k (d + 1)) by rw [hnx2.out]; rw [hpf.out]; (try rw [List.append_nil]); skip; exact hown5.out)
         go_wp2
         go_roundg (M - (d + 1))
         case rel => exact ⟨d + 1, by have := hd.out; omega, by go_num, hown9, hb5⟩
         case measure => have := hd.out; omega
        subst q2
        have q2t : (f == f) = true := by simp
        have q3t : (t == t') = false := by rw [beq_eq_false_iff_ne]; exact q3
        rcases Int.lt_or_gt_of_ne q3 with hc | hc
        · have hpf : eu (f, l, t) (f, l', t') = [(t, t')] := by unfold eu; rw [if_pos ⟨q1, rfl⟩, if_neg (fun h => q3 h.2)]; simp only [List.append_nil]; rw [show min t t' = t by omega, show max t t' = t' by omega]
          replace q3 := ae q3
          replace hpf := ae hpf
          replace q1 := ae q1
          have hmn : min t t' = t := by omega
          have hmx : max t t' = t' := by omega
          go_wp2_with (at_builtin; go_must (refine jV rfl _ _ rfl w0.heap.size (.slice a3 m3 c3) L _ _ rfl rfl (by exact hown3.out) (by omega) hbz.out.size ?_))
          intro v4 w4 hown4 hg4 hloc4
          obtain ⟨a4, m4, c4, rfl⟩ := hown4.form3
          have hown4 := ae hown4
          have hbz4 := ae (show Below w0.heap.size w0 w4 from (hbz.out.alloc hbz.out.size _).grown hg4 (by have := hbz.out.size; simp; omega) (fun q hq => (World.ownsRow.lt hown3.out q hq).1))
          replace a0 := bZ a0 hg4 hlta3 hneA.out
          replace a1 := bZ a1 hg4 hlta3 hneA.out
          replace a2 := bZ a2 hg4 hlta3 hneA.out
          replace b0 := bZ b0 hg4 hltb hneB.out
          replace b1 := bZ b1 hg4 hltb hneB.out
          replace b2 := bZ b2 hg4 hltb hneB.out
          clear hg4 hloc4
          have hown9 := ae (show fF _ w0.heap.size _ (fO es k ++ iF es k (d + 1)) by rw [hnx2.out]; rw [hpf.out]; (try rw [List.append_nil]); skip; exact hown4.out)
          go_wp2
          go_roundg (M - (d + 1))
          case rel => exact ⟨d + 1, by have := hd.out; omega, by go_num, hown9, hbz4⟩
          case measure => have := hd.out; omega
        · have hpf : eu (f, l, t) (f, l', t') = [(t', t)] := by unfold eu; rw [if_pos ⟨q1, rfl⟩, if_neg (fun h => q3 h.2)]; simp only [List.append_nil]; rw [show min t t' = t' by omega, show max t t' = t by omega]
          replace q3 := ae q3
          replace hpf := ae hpf
          replace q1 := ae q1
          have hmn : min t t' = t' := by omega
          have hmx : max t t' = t := by omega
          go_wp2_with (at_builtin; go_must (refine jV rfl _ _ rfl w0.heap.size (.slice a3 m3 c3) L _ _ rfl rfl (by exact hown3.out) (by omega) hbz.out.size ?_))
          intro v4 w4 hown4 hg4 hloc4
          obtain ⟨a4, m4, c4, rfl⟩ := hown4.form3
          have hown4 := ae hown4
          have hbz4 := ae (show Below w0.heap.size w0 w4 from (hbz.out.alloc hbz.out.size _).grown hg4 (by have := hbz.out.size; simp; omega) (fun q hq => (World.ownsRow.lt hown3.out q hq).1))
          replace a0 := bZ a0 hg4 hlta3 hneA.out
          replace a1 := bZ a1 hg4 hlta3 hneA.out
          replace a2 := bZ a2 hg4 hlta3 hneA.out
          replace b0 := bZ b0 hg4 hltb hneB.out
          replace b1 := bZ b1 hg4 hltb hneB.out
          replace b2 := bZ b2 hg4 hltb hneB.out
          clear hg4 hloc4
          have hown9 := ae (show fF _ w0.heap.size _ (fO es k ++ iF es k (d + 1)) by rw [hnx2.out]; rw [hpf.out]; (try rw [List.append_nil]); skip; exact hown4.out)
          go_wp2
          go_roundg (M - (d + 1))
          case rel => exact ⟨d + 1, by have := hd.out; omega, by go_num, hown9, hbz4⟩
          case measure => have := hd.out; omega
       have q2t : (f == f') = false := by rw [beq_eq_false_iff_ne]; exact q2
       by_cases q3 : t = t'
       case pos =>
        subst q3
        have q3t : (t == t) = true := by simp
        rcases Int.lt_or_gt_of_ne q2 with hc | hc
        · have hpf : eu (f, l, t) (f', l', t) = [(f, f')] := by unfold eu; rw [if_neg (fun h => q2 h.2), if_pos ⟨q1, rfl⟩]; simp only [List.nil_append]; rw [show min f f' = f by omega, show max f f' = f' by omega]
          replace q2 := ae q2
          replace hpf := ae hpf
          replace q1 := ae q1
          have hmn : min f f' = f := by omega
          have hmx : max f f' = f' := by omega
          go_wp2_with (at_builtin; go_must (refine oG rfl _ _ rfl w0.heap.size _ L _ _ rfl rfl (by exact hown3.out) (by omega) hbz.out.size ?_))
          intro v5 w5 hown5 hb5
          obtain ⟨a5, m5, c5, rfl⟩ := hown5.form3
          have hown5 := ae hown5
          replace hb5 := ae (hbz.out.trans hb5)
          have hown9 := ae (show fF _ w0.heap.size _ (fO es k ++ iF es k (d + 1)) by rw [hnx2.out]; rw [hpf.out]; (try rw [List.append_nil]); skip; exact hown5.out)
          go_wp2
          go_roundg (M - (d + 1))
          case rel => exact ⟨d + 1, by have := hd.out; omega, by go_num, hown9, hb5⟩
          case measure => have := hd.out; omega
        · have hpf : eu (f, l, t) (f', l', t) = [(f', f)] := by unfold eu; rw [if_neg (fun h => q2 h.2), if_pos ⟨q1, rfl⟩]; simp only [List.nil_append]; rw [show min f f' = f' by omega, show max f f' = f by omega]
          replace q2 := ae q2
          replace hpf := ae hpf
          replace q1 := ae q1
          have hmn : min f f' = f' := by omega
          have hmx : max f f' = f := by omega
          go_wp2_with (at_builtin; go_must (refine oG rfl _ _ rfl w0.heap.size _ L _ _ rfl rfl (by exact hown3.out) (by omega) hbz.out.size ?_))
          intro v5 w5 hown5 hb5
          obtain ⟨a5, m5, c5, rfl⟩ := hown5.form3
          have hown5 := ae hown5
          replace hb5 := ae (hbz.out.trans hb5)
          have hown9 := ae (show fF _ w0.heap.size _ (fO es k ++ iF es k (d + 1)) by rw [hnx2.out]; rw [hpf.out]; (try rw [List.append_nil]); skip; exact hown5.out)
          go_wp2
          go_roundg (M - (d + 1))
          case rel => exact ⟨d + 1, by have := hd.out; omega, by go_num, hown9, hb5⟩
          case measure => have := hd.out; omega
       have q3t : (t == t') = false := by rw [beq_eq_false_iff_ne]; exact q3
       have hpf : eu (f, l, t) (f', l', t') = [] := by unfold eu; rw [if_neg (fun h => q2 h.2), if_neg (fun h => q3 h.2)]; rfl
       replace q2 := ae q2
       replace q3 := ae q3
       replace hpf := ae hpf
       replace q1 := ae q1
       have hown9 := ae (show fF _ w0.heap.size _ (fO es k ++ iF es k (d + 1)) by rw [hnx2.out]; rw [hpf.out]; (try rw [List.append_nil]); skip; exact hown3.out)
       go_wp2
       go_roundg (M - (d + 1))
       case rel => exact ⟨d + 1, by have := hd.out; omega, by go_num, hown9, hbz⟩
       case measure => have := hd.out; omega
     · have hdi : ¬ (k : Int) + 1 + (d : Int) < (n : Int) := by have := hM.out; omega
       obtain rfl : d = M := by omega
       have hown9 := ae (show fF wr w0.heap.size (.slice a3 m3 c3) (fO es (k + 1)) by rw [allF_next, ← hn.out, ← hM.out]; exact hown.out)
       replace hd := ae hd
       go_wp2
       go_roundg (n - (k + 1))
       case rel => exact ⟨k + 1, by have := hk.out; omega, by go_num, hown9, hb⟩
       case measure => have := hk.out; omega
  · obtain rfl : k = n := by omega
    have hki : ¬ (k : Int) < (k : Int) := by omega
    have hr : LwFolds w R (.returned (.slice a3 m3 c3)) wr := by
     rw [hfin.out] at hown
     have hRl : R.length ≤ 4000000000000 := by
      have := foldsF_length es
      rw [hRR.out]
      rw [← hn.out] at this
      omega
     have hrow := bG.row hown.out hRl
     have hm := hrow.cap.1
     subst hm
     exact ⟨_, _, rfl, hrow.wide (Nat.le_of_lt hs0) (nl _), hb0.trans (hb.out.mono hb0.size)⟩
    replace hr := ae hr
    replace hk := ae hk
    go_wp2
    go_ret
    exact hr.out
def wR (w : World) (f : dB) (b : Bool) (e : Ending) (w' : World) : Prop := e = .returned (.tuple #[.agg #[.int .i64 f.1, .int .i64 f.2], .bool b]) ∧ Below w.heap.size w w'
theorem wZ {w : World} {g : Nat} {T : TypeId} {x0 x1 : Value} (h : w.heap[g]? = some (.cells #[x0, x1] T (0, 0))) (v0 v1 : Value) :
 ((w.setCell ⟨g, 0, none⟩ v0).setCell ⟨g, 1, none⟩ v1).heap[g]? = some (.cells #[v0, v1] T (0, 0)) := by
 have h3 := heap_setCell_same _ g 1 _ T v1 (heap_setCell_same w g 0 _ T v0 h)
 simpa using h3
set_option maxRecDepth 100000 in
set_option maxHeartbeats 3200000 in
theorem Fq (w : World) (r s : Int) (v : Value) (es : List Ed) (h : ay w.heap.size w v es) (hs : -9223372036854775808 ≤ s ∧ s ≤ 9223372036854775807) (hl : es.length ≤ 100000000) :
 Calls Tryz.prog 139 #[.agg #[.int .i64 r, .int .i64 s, v]] w (wR w (qR r s es) (kN r s es)) := by
 obtain ⟨a, cap, rfl, hnc⟩ := h.form
 obtain ⟨n, hn⟩ := ag es.length
 rw [← hn] at hl hnc ⊢
 rw [← hn] at h
 obtain ⟨w0, hw0⟩ := ag (w.alloc (.cells #[.int .i64 r, .int .i64 s, .slice a n cap] 26))
 have hb0 : Below w.heap.size w w0 := by rw [hw0]; exact (Below.refl _ _).alloc (nl _) _
 have hs0 : w0.heap.size = w.heap.size + 1 := by rw [hw0]; simp
 obtain ⟨g0, g1, g2⟩ := bT hw0
 obtain ⟨w1, hw1⟩ := ag (w0.alloc (.cells #[.int .i64 0, .int .i64 0] 126))
 have hb01 : Below w0.heap.size w0 w1 := by rw [hw1]; exact (Below.refl _ _).alloc (nl _) _
 have hs1 : w1.heap.size = w.heap.size + 1 + 1 := by rw [hw1]; simp; omega
 have hk1 := heap_alloc_new w0 (.cells #[.int .i64 0, .int .i64 0] 126)
 rw [← hw1, hs0] at hk1
 have hlt0 : w.heap.size < w0.heap.size := by omega
 replace g0 := af g0 hb01 hlt0
 replace g1 := af g1 hb01 hlt0
 replace g2 := af g2 hb01 hlt0
 have hb1 : Below w.heap.size w w1 := hb0.trans (hb01.mono (by omega))
 have his := kC w1 r s (.slice a n cap) es ((h.below hb1).mono hb1.size) hs (by omega)
 obtain ⟨B, hB⟩ := ag (aK r s es)
 rw [← hB] at his
 obtain ⟨F, hF⟩ := ag (qR r s es)
 obtain ⟨C, hC⟩ := ag (kN r s es)
 rw [← hF, ← hC]
 have hno : C = false → F = eH := fun h => by rw [hF]; unfold qR; rw [← hC, h]; rfl
 have hC0 : B = false → C = false := fun h => by rw [hC]; unfold kN; rw [← hB, h]; rfl
 have hC1 : (bY es).length = 0 → C = false := fun h => by rw [hC]; unfold kN; rw [h]; simp
 have hC2 : B = true → (bY es).length ≠ 0 → C = true ∧ F = (bY es).getD 0 eH := fun h1 h2 => by
  have hc : C = true := by rw [hC]; unfold kN; rw [← hB, h1, decide_eq_true h2]; rfl
  exact ⟨hc, by rw [hF]; unfold qR; rw [← hC, hc]; rfl⟩
 have hend : ∀ (W : World) (x y : Int), Below w.heap.size w W → Below w.heap.size w ((W.setCell ⟨w.heap.size + 1, 0, none⟩ (.int .i64 x)).setCell ⟨w.heap.size + 1, 1, none⟩ (.int .i64 y)) := fun W x y hW =>
  (hW.setCell (p := ⟨w.heap.size + 1, 0, none⟩) (by simp) _).setCell (p := ⟨w.heap.size + 1, 1, none⟩) (by simp) _
 replace hno := ae hno
 replace hC0 := ae hC0
 replace hC1 := ae hC1
 replace hC2 := ae hC2
 replace hF := ae hF
 replace hC := ae hC
 replace hn := ae hn
 replace h := ae h
 replace hk1 := ae hk1
 replace hend := ae hend
 have hww : (w.alloc (.cells #[.int .i64 r, .int .i64 s, .slice a n cap] 26)).alloc (.cells #[.int .i64 0, .int .i64 0] 126) = w1 := by rw [hw1, hw0]
 replace hww := ae hww
 replace hw0 := ae hw0
 replace hw1 := ae hw1
 replace hs0 := ae hs0
 replace hs1 := ae hs1
 clear hb01
 go_enter Tryz.func139, Tryz.ntmps139
 go_upto_region 1 with fail
 rw [hww.out]
 go_wp2_with fail
 refine his.mono ?_
 rintro e w2 ⟨rfl, hb2⟩
 clear his
 have hlt1 : w.heap.size < w1.heap.size := by have := hs1.out; omega
 replace g0 := af g0 hb2 hlt1
 replace g1 := af g1 hb2 hlt1
 replace g2 := af g2 hb2 hlt1
 have hk2 := ae (show w2.heap[w.heap.size + 1]? = some (.cells #[.int .i64 0, .int .i64 0] 126 (0, 0)) by rw [hb2.block _ (by have := hs1.out; omega)]; exact hk1.out)
 have hb12 := ae (hb1.trans (hb2.mono hb1.size))
 cases B with
 | false =>
  have hCf := hC0.out rfl
  have hFz := hno.out hCf
  have y0 := cell_of_heap hk2.out 0
  have y1 := cell_of_heap hk2.out 1
  have f1 := fun j => frozen_of_row w2 (w.heap.size + 1) j _ _ hk2.out
  simp at y0 y1
  have hr := ae (hend.out w2 0 0 hb12.out)
  have hset := ae (wZ hk2.out (.int .i64 0) (.int .i64 0))
  subst hCf
  replace hFz := ae hFz
  replace hB := ae hB
  go_wp2
  (try simp only [Exit.inBlock, Exit.then])
  refine aO (x := .bool false) rfl rfl rfl hset.out Tryz.underlying126 oQ ?_
  exact ⟨by rw [hFz.out]; rfl, hr.out⟩
 | true =>
  have h120 : n ≤ 120 := by rw [hn.out]; exact (dN.1 hB.symm).2.2.2.2.2
  have hcf := specFolds w2 r s (.slice a n cap) es ((h.out.below hb12.out).mono hb12.out.size) (by have := hn.out; omega)
  obtain ⟨L, hL⟩ := ag (bY es)
  rw [← hL] at hcf
  have hC3 := hC2.out rfl
  have hC4 := hC1.out
  rw [← hL] at hC3 hC4
  replace hB := ae hB
  replace hL := ae hL
  replace hC3 := ae hC3
  replace hC4 := ae hC4
  go_wp2_with fail
  refine hcf.mono ?_
  rintro e w3 ⟨aL, capL, rfl, hrow, hb3⟩
  clear hcf
  have hlt2 : w.heap.size + 1 < w2.heap.size := by have := hs1.out; have := hb2.size; omega
  have hk3 := ae (show w3.heap[w.heap.size + 1]? = some (.cells #[.int .i64 0, .int .i64 0] 126 (0, 0)) by rw [hb3.block _ hlt2]; exact hk2.out)
  have hb13 := ae (hb12.out.trans (hb3.mono hb12.out.size))
  have y0 := cell_of_heap hk3.out 0
  have y1 := cell_of_heap hk3.out 1
  have f1 := fun j => frozen_of_row w3 (w.heap.size + 1) j _ _ hk3.out
  simp at y0 y1
  obtain ⟨nL, hnL⟩ := ag L.length
  rw [← hnL] at hrow ⊢
  clear g0 g1 g2
  by_cases h0 : nL = 0
  · have hCf := hC4.out (by rw [← hnL]; exact h0)
    have hFz := hno.out hCf
    have t0 : ((nL : Int) == 0) = true := by rw [beq_iff_eq]; omega
    have hr := ae (hend.out w3 0 0 hb13.out)
    have hset := ae (wZ hk3.out (.int .i64 0) (.int .i64 0))
    subst hCf
    replace hFz := ae hFz
    replace hnL := ae hnL
    replace h0 := ae h0
    replace hrow := ae hrow
    go_wp2
    (try simp only [Exit.inBlock, Exit.then])
    refine aO (x := .bool false) rfl rfl rfl hset.out Tryz.underlying126 oQ ?_
    exact ⟨by rw [hFz.out]; rfl, hr.out⟩
  · obtain ⟨hCt, hFe⟩ := hC3.out (by rw [← hnL]; exact h0)
    have t0 : ((nL : Int) == 0) = false := by rw [beq_eq_false_iff_ne]; omega
    have hrd : yu w3.heap.size w3 (.slice aL nL capL) L := by
     have := hrow.read
     rw [hnL] at this ⊢
     exact this
    obtain ⟨b, off, haL, hbB, c0, c1⟩ := yu.cells hrd 0 (by omega)
    subst haL
    rw [← hFe] at c0 c1
    simp only [Nat.zero_mul, Nat.add_zero] at c0 c1
    have hpos : (0 : Int) < (nL : Int) := by omega
    obtain ⟨k, d⟩ := F
    simp only at c0 c1
    have hr := ae (hend.out w3 k d hb13.out)
    have hset := ae (wZ hk3.out (.int .i64 k) (.int .i64 d))
    subst hCt
    replace hFe := ae hFe
    replace hnL := ae hnL
    replace h0 := ae h0
    replace hrow := ae hrow
    replace hrd := ae hrd
    go_wp2
    (try simp only [Exit.inBlock, Exit.then])
    refine aO (x := .bool true) rfl rfl rfl hset.out Tryz.underlying126 oQ ?_
    exact ⟨rfl, hr.out⟩
def mr (w : World) (r s : Int) (es : List Ed) (f : dB) (b : Bool) (e : Ending) (w' : World) : Prop :=
 ∃ a cap, e = .returned (.tuple #[.agg #[.int .i64 r, .int .i64 s, .slice a es.length cap], .agg #[.int .i64 f.1, .int .i64 f.2], .bool b]) ∧ aF 36 3 w' w.heap.size w'.heap.size (.slice a es.length cap) es.length (aC es) ∧ Below w.heap.size w w'
def uD (w : World) (r s : Int) (es : List Ed) (l : List dB) (e : Ending) (w' : World) : Prop :=
 ∃ (a : Option Addr) (cap : Nat) (v : Value) (glo ghi flo fhi : Nat), e = .returned (.tuple #[.agg #[.int .i64 r, .int .i64 s, .slice a es.length cap], v]) ∧
  (w.heap.size ≤ glo ∧ glo ≤ ghi ∧ ghi ≤ w'.heap.size ∧ w.heap.size ≤ flo ∧ flo ≤ fhi ∧ fhi ≤ w'.heap.size ∧ (ghi ≤ flo ∨ fhi ≤ glo)) ∧
  aF 36 3 w' glo ghi (.slice a es.length cap) es.length (aC es) ∧ aF 126 2 w' flo fhi v l.length (ik l) ∧ Below w.heap.size w w'
end Go.Proofs.YtgnomlcjikfdhaaGreat
