/- Plain mathematics: texts of graphs are read back; the program's reading and the model's agree. -/
import Derived.Test.YtkmhncbakfnfeaaDoorGQ5
namespace Go.Proofs.YtkmhncbakfnfeaaDoor
open Go.RowKit
set_option linter.unusedVariables false
set_option linter.unusedSimpArgs false

def noSp (a : List UInt8) : Prop := ∀ c ∈ a, c ≠ 32
theorem cutG_none (a : List UInt8) : ∀ pre, noSp a → cutG pre a = [pre ++ a] := by
  induction a with
  | nil => intro pre _; simp [cutG]
  | cons c a ih =>
    intro pre h
    rw [cutG, if_neg (h c (by simp)), ih _ (fun x hx => h x (by simp [hx]))]
    simp
theorem cutG_some (a rest : List UInt8) : ∀ pre, noSp a → cutG pre (a ++ 32 :: rest) = (pre ++ a) :: cutG [] rest := by
  induction a with
  | nil => intro pre _; simp [cutG]
  | cons c a ih =>
    intro pre h
    rw [List.cons_append, cutG, if_neg (h c (by simp)), ih _ (fun x hx => h x (by simp [hx]))]
    simp
theorem index_none32 (a : List UInt8) (h : noSp a) : Lib.index a [32] = -1 := by
  induction a with
  | nil => rfl
  | cons c a ih =>
    unfold Lib.index
    have hc : ([32] : List UInt8).isPrefixOf (c :: a) = false := by
      have := h c (by simp)
      simp [List.isPrefixOf]
      exact fun e => this e.symm
    rw [hc, ih (fun x hx => h x (by simp [hx]))]
    rfl
theorem index_some32 (a rest : List UInt8) (h : noSp a) : Lib.index (a ++ 32 :: rest) [32] = (a.length : Int) := by
  induction a with
  | nil => simp [Lib.index, List.isPrefixOf]
  | cons c a ih =>
    rw [List.cons_append]
    unfold Lib.index
    have hc : ([32] : List UInt8).isPrefixOf (c :: (a ++ 32 :: rest)) = false := by
      have := h c (by simp)
      simp [List.isPrefixOf]
      exact fun e => this e.symm
    rw [hc, ih (fun x hx => h x (by simp [hx]))]
    have : (((a.length : Int)) == -1) = false := by rw [beq_eq_false_iff_ne]; omega
    simp [this]
theorem sp_split (s : List UInt8) : noSp s ∨ ∃ a rest, s = a ++ 32 :: rest ∧ noSp a := by
  induction s with
  | nil => left; intro c h; cases h
  | cons c s ih =>
    by_cases hc : c = 32
    · right; exact ⟨[], s, by rw [hc]; rfl, fun x h => by cases h⟩
    · rcases ih with h | ⟨a, rest, rfl, h⟩
      · left
        intro x hx
        rcases List.mem_cons.1 hx with rfl | hx
        · exact hc
        · exact h x hx
      · right
        refine ⟨c :: a, rest, rfl, fun x hx => ?_⟩
        rcases List.mem_cons.1 hx with rfl | hx
        · exact hc
        · exact h x hx
theorem splitK_cut (k : Nat) : ∀ s : List UInt8, (cutG [] s).length ≤ k + 1 → Lib.splitK [32] 0 k s = cutG [] s := by
  induction k with
  | zero =>
    intro s h
    rcases sp_split s with hs | ⟨a, rest, rfl, ha⟩
    · rw [cutG_none s [] hs]; simp [Lib.splitK]
    · rw [cutG_some a rest [] ha] at h
      have := cutG_ne rest []
      simp at h
      exact absurd h this
  | succ k ih =>
    intro s h
    rcases sp_split s with hs | ⟨a, rest, rfl, ha⟩
    · rw [cutG_none s [] hs]
      unfold Lib.splitK
      rw [index_none32 s hs]
      simp
    · rw [cutG_some a rest [] ha] at h ⊢
      unfold Lib.splitK
      rw [index_some32 a rest ha]
      have h1 : (((a.length : Int)) == -1) = false := by rw [beq_eq_false_iff_ne]; omega
      rw [h1]
      have h2 : (((a.length : Int)).toNat + ([32] : List UInt8).length) = a.length + 1 := by simp
      have h3 : (a ++ 32 :: rest).drop (a.length + 1) = rest := by simp
      rw [h2, h3, ih rest (by simp at h; omega)]
      simp
theorem isD_noSp {a : List UInt8} (h : a.all isD = true) : noSp a := by
  intro c hc e
  have := List.all_eq_true.1 h c hc
  rw [e] at this
  exact absurd this (by decide)
theorem itoa_isD {n : Int} (h : 0 ≤ n) : (Lib.itoa n).all isD = true := by rw [itoa_pos h]; exact dd_digits _
def partL (e : Ed) : List UInt8 := Lib.itoa e.1 ++ chr e.2.1 :: Lib.itoa e.2.2
/-- What a valid graph's edges are. -/
def okE (e : Ed) : Prop := (0 ≤ e.1 ∧ e.1 ≤ 39) ∧ (1 ≤ e.2.1 ∧ e.2.1 ≤ 3) ∧ 0 ≤ e.2.2 ∧ e.2.2 ≤ 39
theorem isGr_ok {r s : Int} {es : List Ed} (h : isGr r s es = true) : (∀ e ∈ es, okE e) ∧ 1 ≤ r ∧ r ≤ 3 ∧ 1 ≤ s ∧ s ≤ 40 ∧ es.length ≤ 120 := by
  obtain ⟨h1, h2, h3, h4, h5, h6⟩ := isGr_iff.1 h
  refine ⟨fun e he => ?_, h2, h3, h4, h5, h6⟩
  obtain ⟨i, hi, rfl⟩ := List.getElem_of_mem he
  have := h1 i hi
  unfold placeOk edgeOk at this
  rw [List.getD_eq_getElem?_getD, List.getElem?_eq_getElem hi] at this
  simp only [Bool.and_eq_true, decide_eq_true_eq, Option.getD_some] at this
  have hw : wrap64 (s - 1) = s - 1 := by unfold wrap64; omega
  rw [hw] at this
  exact ⟨by omega, by omega, by omega⟩
theorem chr_low {x : Int} (h : 1 ≤ x ∧ x ≤ 3) : ((chr x).toNat : Int) = 96 + x := chr_pos (by omega) (by omega)
theorem partL_noSp {e : Ed} (h : okE e) : noSp (partL e) := by
  intro c hc
  unfold partL at hc
  rcases List.mem_append.1 hc with hc | hc
  · exact isD_noSp (itoa_isD h.1.1) c hc
  · rcases List.mem_cons.1 hc with rfl | hc
    · intro e'
      have := chr_low h.2.1
      rw [e'] at this
      have h32 : ((32 : UInt8).toNat : Int) = 32 := rfl
      rw [h32] at this
      have := h.2.1
      omega
    · exact isD_noSp (itoa_isD h.2.2.1) c hc
theorem cut_edges (es : List Ed) : ∀ a, noSp a → (∀ e ∈ es, okE e) → cutG [] (a ++ fmtEs es) = a :: es.map partL := by
  induction es with
  | nil => intro a ha _; simp [fmtEs, cutG_none a [] ha]
  | cons e es ih =>
    intro a ha h
    have h1 : a ++ fmtEs (e :: es) = a ++ 32 :: (partL e ++ fmtEs es) := by simp [fmtEs, fmtE, partL]
    rw [h1, cutG_some a _ [] ha, ih (partL e) (partL_noSp (h e (by simp))) (fun x hx => h x (by simp [hx]))]
    rfl
theorem cut_fmt {r s : Int} {es : List Ed} (h : isGr r s es = true) : cutG [] (fmtG r s es) = Lib.itoa r :: Lib.itoa s :: es.map partL := by
  obtain ⟨h1, h2, h3, h4, h5, _⟩ := isGr_ok h
  have h6 : fmtG r s es = Lib.itoa r ++ 32 :: (Lib.itoa s ++ fmtEs es) := by simp [fmtG, fmtHead]
  rw [h6, cutG_some _ _ [] (isD_noSp (itoa_isD (by omega))), cut_edges es _ (isD_noSp (itoa_isD (by omega))) h1]
  rfl
theorem readG_at {isL : UInt8 → Bool} {num : List UInt8 → Int} (a : List UInt8) (c : UInt8) (b : List UInt8) (hc : isL c = true) : ∀ pre, (∀ x ∈ a, isL x = false) → readG isL num pre (a ++ c :: b) = (num (pre ++ a), unch c, num b) := by
  induction a with
  | nil => intro pre _; simp [readG, hc]
  | cons x a ih =>
    intro pre h
    rw [List.cons_append, readG, h x (by simp), ih _ (fun y hy => h y (by simp [hy]))]
    simp
theorem num_itoa {n : Int} (h : 0 ≤ n ∧ n ≤ 1000) : numS (Lib.itoa n) = n ∧ numP (Lib.itoa n) = n := by
  have := parseI_itoa_in (n := n) (by omega) (by omega)
  unfold numS numP
  rw [this]
  exact ⟨rfl, rfl⟩
theorem digit_not {c : UInt8} (h : isD c = true) : isLow c = false ∧ isAny c = false := by
  have := isD_iff.1 h
  refine ⟨by unfold isLow; simp; omega, ?_⟩
  unfold isAny
  rw [unch_zero.2 ⟨by omega, by omega⟩]
  rfl
theorem chr_is {x : Int} (h : 1 ≤ x ∧ x ≤ 3) : isLow (chr x) = true ∧ isAny (chr x) = true ∧ unch (chr x) = x := by
  have h1 := chr_low h
  have h2 := unch_chr (x := x) (lettB_iff.2 ⟨by omega, by omega, by omega⟩)
  refine ⟨by unfold isLow; simp; omega, ?_, h2⟩
  unfold isAny
  rw [h2]
  simp
  omega
theorem read_part {e : Ed} (h : okE e) : readS (partL e) = e ∧ readP (partL e) = e := by
  obtain ⟨⟨h1, h2⟩, h3, h4, h5⟩ := h
  obtain ⟨c1, c2, c3⟩ := chr_is h3
  have hd := List.all_eq_true.1 (itoa_isD h1)
  have n1 := num_itoa ⟨h1, by omega⟩
  have n2 := num_itoa ⟨h4, by omega⟩
  constructor
  · unfold readS partL
    rw [readG_at _ _ _ c1 [] (fun x hx => (digit_not (hd x hx)).1), List.nil_append, n1.1, n2.1, c3]
  · unfold readP partL
    rw [readG_at _ _ _ c2 [] (fun x hx => (digit_not (hd x hx)).2), List.nil_append, n1.2, n2.2, c3]
theorem map_back {f : List UInt8 → Ed} (hf : ∀ e, okE e → f (partL e) = e) (es : List Ed) (h : ∀ e ∈ es, okE e) : (es.map partL).map f = es := by
  induction es with
  | nil => rfl
  | cons e es ih => rw [List.map_cons, List.map_cons, hf e (h e (by simp)), ih (fun x hx => h x (by simp [hx]))]
/-- The text of a valid graph, read by both. -/
theorem read_back {r s : Int} {es : List Ed} {L : List UInt8} (h : isGr r s es = true) (hL : fmtG r s es = L) :
    (candR (cutG [] L) = r ∧ candZ (cutG [] L) = s ∧ candE (cutG [] L) = es) ∧ 2 ≤ (splitP L).length ∧ numP ((splitP L).getD 0 []) = r ∧ numP ((splitP L).getD 1 []) = s ∧ canP (splitP L) = es := by
  obtain ⟨h1, h2, h3, h4, h5, h6⟩ := isGr_ok h
  have hc : cutG [] L = Lib.itoa r :: Lib.itoa s :: es.map partL := by rw [← hL]; exact cut_fmt h
  have hsp : splitP L = cutG [] L := by
    unfold splitP
    refine splitK_cut _ L ?_
    have a1 := cutG_length L []
    have a2 : (cutG [] L).length ≤ 122 := by rw [hc]; simp; omega
    omega
  have nr := num_itoa (n := r) ⟨by omega, by omega⟩
  have ns := num_itoa (n := s) ⟨by omega, by omega⟩
  rw [hsp, hc]
  refine ⟨⟨?_, ?_, ?_⟩, by simp, ?_, ?_, ?_⟩
  · unfold candR; simpa using nr.1
  · unfold candZ; simpa using ns.1
  · unfold candE; simpa using map_back (fun e he => (read_part he).1) es h1
  · simpa using nr.2
  · simpa using ns.2
  · unfold canP; simpa using map_back (fun e he => (read_part he).2) es h1
theorem par_same (L : List UInt8) : pB L = parB L ∧ (parB L = true → numP ((splitP L).getD 0 []) = candR (cutG [] L) ∧ numP ((splitP L).getD 1 []) = candZ (cutG [] L) ∧ canP (splitP L) = candE (cutG [] L)) := by
  have fwd : parB L = true → pB L = true ∧ numP ((splitP L).getD 0 []) = candR (cutG [] L) ∧ numP ((splitP L).getD 1 []) = candZ (cutG [] L) ∧ canP (splitP L) = candE (cutG [] L) := by
    intro h
    unfold parB at h
    rw [decide_eq_true_eq] at h
    obtain ⟨hne, hf⟩ := h
    have hg : isGr (candR (cutG [] L)) (candZ (cutG [] L)) (candE (cutG [] L)) = true := by
      cases hq : isGr (candR (cutG [] L)) (candZ (cutG [] L)) (candE (cutG [] L)) with
      | true => rfl
      | false => unfold fmtGr at hf; rw [hq] at hf; exact absurd hf.symm hne
    have hf2 : fmtG (candR (cutG [] L)) (candZ (cutG [] L)) (candE (cutG [] L)) = L := by unfold fmtGr at hf; rwa [if_pos hg] at hf
    obtain ⟨_, h2, h3, h4, h5⟩ := read_back hg hf2
    refine ⟨?_, h3, h4, h5⟩
    unfold pB
    rw [decide_eq_true_eq]
    exact ⟨h2, by rw [h3, h4, h5]; exact hf⟩
  refine ⟨?_, fun h => (fwd h).2⟩
  cases hp : parB L with
  | true => exact (fwd hp).1
  | false =>
    cases hq : pB L with
    | false => rfl
    | true =>
      exfalso
      unfold pB at hq
      rw [decide_eq_true_eq] at hq
      obtain ⟨h2, hf⟩ := hq
      have hne : L ≠ [] := by
        intro e
        rw [e] at h2
        simp [splitP, Lib.splitK] at h2
      have hg : isGr (numP ((splitP L).getD 0 [])) (numP ((splitP L).getD 1 [])) (canP (splitP L)) = true := by
        cases hq : isGr (numP ((splitP L).getD 0 [])) (numP ((splitP L).getD 1 [])) (canP (splitP L)) with
        | true => rfl
        | false => unfold fmtGr at hf; rw [hq] at hf; exact absurd hf.symm hne
      have hf2 : fmtG (numP ((splitP L).getD 0 [])) (numP ((splitP L).getD 1 [])) (canP (splitP L)) = L := by unfold fmtGr at hf; rwa [if_pos hg] at hf
      obtain ⟨⟨h3, h4, h5⟩, _⟩ := read_back hg hf2
      have : parB L = true := by
        unfold parB
        rw [decide_eq_true_eq]
        exact ⟨hne, by rw [h3, h4, h5]; exact hf⟩
      rw [hp] at this
      cases this
theorem pR_par (L : List UInt8) : pR L = parR L ∧ pZ L = parZ L ∧ pE L = parE L := by
  obtain ⟨h1, h2⟩ := par_same L
  unfold pR pZ pE parR parZ parE
  rw [h1]
  cases hp : parB L with
  | true => obtain ⟨a, b, c⟩ := h2 hp; simp only [if_true]; exact ⟨a, b, c⟩
  | false => exact ⟨rfl, rfl, rfl⟩
/-- ParseGraph, as the law's walk asks for it. -/
theorem sParG (s : ByteArray) (w : World) (hs : s.size ≤ 1048576) :
    Calls Tryd.prog 10 #[.string s] w (LwGraphBool w (parR s.data.toList) (parZ s.data.toList) (parE s.data.toList) (parB s.data.toList)) := specParG s w hs
theorem iParG (s : ByteArray) (w : World) (hs : s.size ≤ 1048576) (htab : Tab w) (mx : Int) (hmx : w.cell? ⟨0, 0, none⟩ = some (.int .i64 mx)) :
    Calls Tryd.prog 11 #[.string s] w (LwGraphBool w (parR s.data.toList) (parZ s.data.toList) (parE s.data.toList) (parB s.data.toList)) := by
  have h := progParG s w hs htab mx hmx
  obtain ⟨h1, h2, h3⟩ := pR_par s.data.toList
  rw [h1, h2, h3, (par_same s.data.toList).1] at h
  exact h
theorem parE_length (s : List UInt8) : (parE s).length ≤ s.length + 1 := by
  unfold parE
  split
  · unfold candE
    have := cutG_length s []
    simp
    omega
  · simp
end Go.Proofs.YtkmhncbakfnfeaaDoor
