/- For every slice of bytes, laws.FnTexts returns true and leaves its argument as it is: words are read back from their texts and ordered by length and then by letters, at the words drawn from the bytes. Conditions: none beyond the row's. -/
import Derived.Test.YthjlemcnddkjgaaSN
import Derived.Test.YthjlemcnddkjgaaDTp
import Derived.Test.YthjlemcnddkjgaaWSE
import Derived.WalkKit
import Derived.ProofKit
import Derived.OpenShut
import Derived.ShutString
import Derived.Below
namespace Go.Proofs.Ythjlemcnddkjgaa.fnTexts
open Go.ChangeShapes Go.WideShapes Go.ChangeAt Go.RowKit
open Go.ChangeMaps (open_string shut_string)
set_option linter.unusedVariables false

theorem own : ownKnob Try.prog.godebug = none := by kernel_rfl

theorem laidOut : laidOutB Try.prog = true := by kernel_rfl
set_option maxHeartbeats 3200000 in
set_option maxRecDepth 100000 in
theorem walk0 (w : World) (a : Option Addr) (len cap : Nat) (hcode : CodeIn w.heap.size w a len) (hcap : len ≤ cap) :
    Calls Try.prog 4 #[.slice a len cap] w fun e w' => e = .returned (.bool true) ∧ Below w.heap.size w w' := by
  have hlen := hcode.1
  replace hcode := hidI hcode
  have hb0 := Below.refl w.heap.size w
  go_enter Try.func4, Try.ntmps4
  go_wp2_with fail
  refine (big_no _ a len cap hlen).mono ?_
  rintro e w0 ⟨rfl, rfl⟩
  go_wp2_with fail
  refine (drawIs_any w a len cap hcode.out).mono ?_
  rintro e w1 ⟨rk, vz, Z, pz, rfl, hz, hbn⟩
  have iz : InR Z := pz.2.2.inR
  have lz : Z.length ≤ 9 := pz.2.2.2
  replace iz := hidI iz
  replace lz := hidI lz
  replace pz := hidI pz
  replace hz := hidI hz
  have hb1 := hb0.trans (hbn.mono hb0.size)
  replace hcode := hidI (codeIn_mono (hcode.out.below hbn) hbn.size)
  clear hbn
  have hpf := par_fmt rk Z
  obtain ⟨T, hT⟩ : ∃ T : ByteArray, T = ⟨(fmtW Z).toArray⟩ := ⟨_, rfl⟩
  have hTd : T.data.toList = fmtW Z := by rw [hT]
  have hTs : T.size ≤ 1048576 := by rw [hT]; show (fmtW Z).toArray.size ≤ _; rw [List.size_toArray]; have := fmtW_length Z; have := lz.out; omega
  have hTT : (T.toList == T.toList) = true := by simp
  obtain ⟨bz, ebz⟩ : ∃ b, b = isW rk Z := ⟨_, rfl⟩
  have hbz : (bz != bz) = false := by simp
  rw [← ebz] at hpf
  replace hpf := hidI hpf
  replace hT := hidI hT
  replace hTd := hidI hTd
  replace ebz := hidI ebz
  go_wp2_with fail
  refine (format_any w1 vz Z hz.out (by have := lz.out; omega)).mono ?_
  unfold StrRet; rw [← hT.out]
  rintro e w2 ⟨rfl, hbn⟩
  have hb2 := hb1.trans (hbn.mono hb1.size)
  replace hz := hidI ((hz.out.below hbn).mono hbn.size)
  replace hcode := hidI (codeIn_mono (hcode.out.below hbn) hbn.size)
  clear hbn hb1
  go_wp2_with fail
  refine (parse_any w2 rk T hTs).mono ?_
  rw [hTd.out, hpf.out.1]
  rintro e w3 ⟨vx, rfl, hrow, hbn⟩
  have hx := hidI hrow.read
  clear hrow
  have hb3 := hb2.trans (hbn.mono hb2.size)
  replace hz := hidI ((hz.out.below hbn).mono hbn.size)
  replace hcode := hidI (codeIn_mono (hcode.out.below hbn) hbn.size)
  clear hbn hb2
  go_wp2_with fail
  refine (specFmt w3 vz Z hz.out (by have := lz.out; omega)).mono ?_
  unfold StrRet; rw [← hT.out]
  rintro e w4 ⟨rfl, hbn⟩
  have hb4 := hb3.trans (hbn.mono hb3.size)
  replace hz := hidI ((hz.out.below hbn).mono hbn.size)
  replace hx := hidI ((hx.out.below hbn).mono hbn.size)
  replace hcode := hidI (codeIn_mono (hcode.out.below hbn) hbn.size)
  clear hbn hb3
  go_wp2_with fail
  refine (specIsW w4 w4.heap.size vz Z rk hz.out).mono ?_
  rw [← ebz.out]
  rintro e w5 ⟨rfl, nq, hwq⟩
  have hbn : Below w4.heap.size w4 w5 := by rw [hwq]; exact below_dn (Below.refl _ _) nq
  clear hwq
  have hb5 := hb4.trans (hbn.mono hb4.size)
  replace hz := hidI ((hz.out.below hbn).mono hbn.size)
  replace hx := hidI ((hx.out.below hbn).mono hbn.size)
  replace hcode := hidI (codeIn_mono (hcode.out.below hbn) hbn.size)
  clear hbn hb4
  cases bz with
  | true =>
    have hpl : parL rk (fmtW Z) = Z := hpf.out.2 rfl
    rw [hpl] at hx
    replace hpl := hidI hpl
    go_wp2_with fail
    refine (sameInts_law w5 vx vz Z hx.out hz.out).mono ?_
    rintro e w6 ⟨rfl, hbn, hsz6⟩
    have hb6 := hb5.trans (hbn.mono hb5.size)
    replace hz := hidI ((hz.out.below hbn).mono hbn.size)
    replace hx := hidI ((hx.out.below hbn).mono hbn.size)
    replace hcode := hidI (codeIn_mono (hcode.out.below hbn) hbn.size)
    clear hbn hb5
    clear hx
    clear hz
    go_wp2_with fail
    refine (drawCmp_any w6 a len cap hcode.out).mono ?_
    rintro e w7 ⟨vra, vrb, A0, B0, pra, prb, rfl, hra, hrb, hbn⟩
    have ira : InR A0 := pra.inR
    have lra : A0.length ≤ 9 := pra.2
    replace ira := hidI ira
    replace lra := hidI lra
    replace pra := hidI pra
    replace hra := hidI hra
    have irb : InR B0 := prb.inR
    have lrb : B0.length ≤ 9 := prb.2
    replace irb := hidI irb
    replace lrb := hidI lrb
    replace prb := hidI prb
    replace hrb := hidI hrb
    have hb7 := hb6.trans (hbn.mono hb6.size)
    replace hcode := hidI (codeIn_mono (hcode.out.below hbn) hbn.size)
    clear hbn hb6
    have hanti := cmpI_anti ira.out irb.out
    obtain ⟨c, hc⟩ : ∃ c, c = cmpI A0 B0 := ⟨_, rfl⟩
    rw [← hc] at hanti
    obtain ⟨hneg, hc1, hc2⟩ := hanti
    have hcc : (c == c) = true := by simp
    have hcn : wrap64 (-(-c)) = c := by unfold wrap64; omega
    have hcn2 : (c == - -c) = true := by simp
    replace hneg := hidI hneg
    replace hc := hidI hc
    go_wp2_with fail
    refine (compare_any w7 w7.heap.size vra vrb A0 B0 hra.out hrb.out ira.out irb.out).mono ?_
    rw [← hc.out]
    rintro e w8 ⟨rfl, nq, hwq⟩
    have hbn : Below w7.heap.size w7 w8 := by rw [hwq]; exact below_dn (Below.refl _ _) nq
    clear hwq
    have hb8 := hb7.trans (hbn.mono hb7.size)
    replace hra := hidI ((hra.out.below hbn).mono hbn.size)
    replace hrb := hidI ((hrb.out.below hbn).mono hbn.size)
    replace hcode := hidI (codeIn_mono (hcode.out.below hbn) hbn.size)
    clear hbn hb7
    go_wp2_with fail
    refine (drawPar_any w8 a len cap hcode.out).mono ?_
    rintro e w9 ⟨pr, PS, hp1, hp2, hp3, rfl, hbn⟩
    have hb9 := hb8.trans (hbn.mono hb8.size)
    replace hra := hidI ((hra.out.below hbn).mono hbn.size)
    replace hrb := hidI ((hrb.out.below hbn).mono hbn.size)
    replace hcode := hidI (codeIn_mono (hcode.out.below hbn) hbn.size)
    clear hbn hb8
    obtain ⟨pb, hpb⟩ : ∃ b, b = parOk pr PS.data.toList := ⟨_, rfl⟩
    have hpp : (pb == pb) = true := by simp
    replace hpb := hidI hpb
    go_wp2_with fail
    refine (parse_any w9 pr PS (by omega)).mono ?_
    rw [← hpb.out]
    rintro e w10 ⟨vq, rfl, hrow, hbn⟩
    clear hrow
    have hb10 := hb9.trans (hbn.mono hb9.size)
    replace hra := hidI ((hra.out.below hbn).mono hbn.size)
    replace hrb := hidI ((hrb.out.below hbn).mono hbn.size)
    replace hcode := hidI (codeIn_mono (hcode.out.below hbn) hbn.size)
    clear hbn hb9
    go_wp2_with fail
    refine (specPar w10 pr PS (by omega)).mono ?_
    rw [← hpb.out]
    rintro e w11 ⟨vq, rfl, hrow, hbn⟩
    clear hrow
    have hb11 := hb10.trans (hbn.mono hb10.size)
    replace hra := hidI ((hra.out.below hbn).mono hbn.size)
    replace hrb := hidI ((hrb.out.below hbn).mono hbn.size)
    replace hcode := hidI (codeIn_mono (hcode.out.below hbn) hbn.size)
    clear hbn hb10
    go_wp2_with fail
    refine (drawEq_any w11 a len cap hcode.out).mono ?_
    rintro e w12 ⟨vru, vrv, U0, V0, pru, prv, rfl, hru, hrv, hbn⟩
    have iru : InR U0 := pru.inR
    have lru : U0.length ≤ 9 := pru.2
    replace iru := hidI iru
    replace lru := hidI lru
    replace pru := hidI pru
    replace hru := hidI hru
    have irv : InR V0 := prv.inR
    have lrv : V0.length ≤ 9 := prv.2
    replace irv := hidI irv
    replace lrv := hidI lrv
    replace prv := hidI prv
    replace hrv := hidI hrv
    have hb12 := hb11.trans (hbn.mono hb11.size)
    replace hra := hidI ((hra.out.below hbn).mono hbn.size)
    replace hrb := hidI ((hrb.out.below hbn).mono hbn.size)
    replace hcode := hidI (codeIn_mono (hcode.out.below hbn) hbn.size)
    clear hbn hb11
    go_wp2_with fail
    refine (specCmp w12 w12.heap.size vra vrb A0 B0 hra.out hrb.out).mono ?_
    rw [← hc.out]
    rintro e w13 ⟨rfl, nq, hwq⟩
    have hbn : Below w12.heap.size w12 w13 := by rw [hwq]; exact below_dn (Below.refl _ _) nq
    clear hwq
    have hb13 := hb12.trans (hbn.mono hb12.size)
    replace hra := hidI ((hra.out.below hbn).mono hbn.size)
    replace hrb := hidI ((hrb.out.below hbn).mono hbn.size)
    replace hru := hidI ((hru.out.below hbn).mono hbn.size)
    replace hrv := hidI ((hrv.out.below hbn).mono hbn.size)
    replace hcode := hidI (codeIn_mono (hcode.out.below hbn) hbn.size)
    clear hbn hb12
    go_wp2_with fail
    refine (compare_any w13 w13.heap.size vrb vra B0 A0 hrb.out hra.out irb.out ira.out).mono ?_
    rw [hneg.out]
    rintro e w14 ⟨rfl, nq, hwq⟩
    have hbn : Below w13.heap.size w13 w14 := by rw [hwq]; exact below_dn (Below.refl _ _) nq
    clear hwq
    have hb14 := hb13.trans (hbn.mono hb13.size)
    replace hra := hidI ((hra.out.below hbn).mono hbn.size)
    replace hrb := hidI ((hrb.out.below hbn).mono hbn.size)
    replace hru := hidI ((hru.out.below hbn).mono hbn.size)
    replace hrv := hidI ((hrv.out.below hbn).mono hbn.size)
    replace hcode := hidI (codeIn_mono (hcode.out.below hbn) hbn.size)
    clear hbn hb13
    clear hra
    clear hrb
    obtain ⟨eb, heb⟩ : ∃ b, b = decide (U0 = V0) := ⟨_, rfl⟩
    have hee : (eb == eb) = true := by simp
    replace heb := hidI heb
    go_wp2_with fail
    refine (equal_any w14 w14.heap.size vru vrv U0 V0 hru.out hrv.out).mono ?_
    rw [← heb.out]
    rintro e w15 ⟨rfl, nq, hwq⟩
    have hbn : Below w14.heap.size w14 w15 := by rw [hwq]; exact below_dn (Below.refl _ _) nq
    clear hwq
    have hb15 := hb14.trans (hbn.mono hb14.size)
    replace hru := hidI ((hru.out.below hbn).mono hbn.size)
    replace hrv := hidI ((hrv.out.below hbn).mono hbn.size)
    replace hcode := hidI (codeIn_mono (hcode.out.below hbn) hbn.size)
    clear hbn hb14
    go_wp2_with fail
    refine (specEqu w15 w15.heap.size vru vrv U0 V0 hru.out hrv.out).mono ?_
    rw [← heb.out]
    rintro e w16 ⟨rfl, nq, hwq⟩
    have hbn : Below w15.heap.size w15 w16 := by rw [hwq]; exact below_dn (Below.refl _ _) nq
    clear hwq
    have hb16 := hb15.trans (hbn.mono hb15.size)
    replace hru := hidI ((hru.out.below hbn).mono hbn.size)
    replace hrv := hidI ((hrv.out.below hbn).mono hbn.size)
    replace hcode := hidI (codeIn_mono (hcode.out.below hbn) hbn.size)
    clear hbn hb15
    go_wp2_with fail
    go_ret
    exact ⟨rfl, hb16⟩
  | false =>
    clear hx
    clear hz
    go_wp2_with fail
    refine (drawCmp_any w5 a len cap hcode.out).mono ?_
    rintro e w6 ⟨vra, vrb, A0, B0, pra, prb, rfl, hra, hrb, hbn⟩
    have ira : InR A0 := pra.inR
    have lra : A0.length ≤ 9 := pra.2
    replace ira := hidI ira
    replace lra := hidI lra
    replace pra := hidI pra
    replace hra := hidI hra
    have irb : InR B0 := prb.inR
    have lrb : B0.length ≤ 9 := prb.2
    replace irb := hidI irb
    replace lrb := hidI lrb
    replace prb := hidI prb
    replace hrb := hidI hrb
    have hb6 := hb5.trans (hbn.mono hb5.size)
    replace hcode := hidI (codeIn_mono (hcode.out.below hbn) hbn.size)
    clear hbn hb5
    have hanti := cmpI_anti ira.out irb.out
    obtain ⟨c, hc⟩ : ∃ c, c = cmpI A0 B0 := ⟨_, rfl⟩
    rw [← hc] at hanti
    obtain ⟨hneg, hc1, hc2⟩ := hanti
    have hcc : (c == c) = true := by simp
    have hcn : wrap64 (-(-c)) = c := by unfold wrap64; omega
    have hcn2 : (c == - -c) = true := by simp
    replace hneg := hidI hneg
    replace hc := hidI hc
    go_wp2_with fail
    refine (compare_any w6 w6.heap.size vra vrb A0 B0 hra.out hrb.out ira.out irb.out).mono ?_
    rw [← hc.out]
    rintro e w7 ⟨rfl, nq, hwq⟩
    have hbn : Below w6.heap.size w6 w7 := by rw [hwq]; exact below_dn (Below.refl _ _) nq
    clear hwq
    have hb7 := hb6.trans (hbn.mono hb6.size)
    replace hra := hidI ((hra.out.below hbn).mono hbn.size)
    replace hrb := hidI ((hrb.out.below hbn).mono hbn.size)
    replace hcode := hidI (codeIn_mono (hcode.out.below hbn) hbn.size)
    clear hbn hb6
    go_wp2_with fail
    refine (drawPar_any w7 a len cap hcode.out).mono ?_
    rintro e w8 ⟨pr, PS, hp1, hp2, hp3, rfl, hbn⟩
    have hb8 := hb7.trans (hbn.mono hb7.size)
    replace hra := hidI ((hra.out.below hbn).mono hbn.size)
    replace hrb := hidI ((hrb.out.below hbn).mono hbn.size)
    replace hcode := hidI (codeIn_mono (hcode.out.below hbn) hbn.size)
    clear hbn hb7
    obtain ⟨pb, hpb⟩ : ∃ b, b = parOk pr PS.data.toList := ⟨_, rfl⟩
    have hpp : (pb == pb) = true := by simp
    replace hpb := hidI hpb
    go_wp2_with fail
    refine (parse_any w8 pr PS (by omega)).mono ?_
    rw [← hpb.out]
    rintro e w9 ⟨vq, rfl, hrow, hbn⟩
    clear hrow
    have hb9 := hb8.trans (hbn.mono hb8.size)
    replace hra := hidI ((hra.out.below hbn).mono hbn.size)
    replace hrb := hidI ((hrb.out.below hbn).mono hbn.size)
    replace hcode := hidI (codeIn_mono (hcode.out.below hbn) hbn.size)
    clear hbn hb8
    go_wp2_with fail
    refine (specPar w9 pr PS (by omega)).mono ?_
    rw [← hpb.out]
    rintro e w10 ⟨vq, rfl, hrow, hbn⟩
    clear hrow
    have hb10 := hb9.trans (hbn.mono hb9.size)
    replace hra := hidI ((hra.out.below hbn).mono hbn.size)
    replace hrb := hidI ((hrb.out.below hbn).mono hbn.size)
    replace hcode := hidI (codeIn_mono (hcode.out.below hbn) hbn.size)
    clear hbn hb9
    go_wp2_with fail
    refine (drawEq_any w10 a len cap hcode.out).mono ?_
    rintro e w11 ⟨vru, vrv, U0, V0, pru, prv, rfl, hru, hrv, hbn⟩
    have iru : InR U0 := pru.inR
    have lru : U0.length ≤ 9 := pru.2
    replace iru := hidI iru
    replace lru := hidI lru
    replace pru := hidI pru
    replace hru := hidI hru
    have irv : InR V0 := prv.inR
    have lrv : V0.length ≤ 9 := prv.2
    replace irv := hidI irv
    replace lrv := hidI lrv
    replace prv := hidI prv
    replace hrv := hidI hrv
    have hb11 := hb10.trans (hbn.mono hb10.size)
    replace hra := hidI ((hra.out.below hbn).mono hbn.size)
    replace hrb := hidI ((hrb.out.below hbn).mono hbn.size)
    replace hcode := hidI (codeIn_mono (hcode.out.below hbn) hbn.size)
    clear hbn hb10
    go_wp2_with fail
    refine (specCmp w11 w11.heap.size vra vrb A0 B0 hra.out hrb.out).mono ?_
    rw [← hc.out]
    rintro e w12 ⟨rfl, nq, hwq⟩
    have hbn : Below w11.heap.size w11 w12 := by rw [hwq]; exact below_dn (Below.refl _ _) nq
    clear hwq
    have hb12 := hb11.trans (hbn.mono hb11.size)
    replace hra := hidI ((hra.out.below hbn).mono hbn.size)
    replace hrb := hidI ((hrb.out.below hbn).mono hbn.size)
    replace hru := hidI ((hru.out.below hbn).mono hbn.size)
    replace hrv := hidI ((hrv.out.below hbn).mono hbn.size)
    replace hcode := hidI (codeIn_mono (hcode.out.below hbn) hbn.size)
    clear hbn hb11
    go_wp2_with fail
    refine (compare_any w12 w12.heap.size vrb vra B0 A0 hrb.out hra.out irb.out ira.out).mono ?_
    rw [hneg.out]
    rintro e w13 ⟨rfl, nq, hwq⟩
    have hbn : Below w12.heap.size w12 w13 := by rw [hwq]; exact below_dn (Below.refl _ _) nq
    clear hwq
    have hb13 := hb12.trans (hbn.mono hb12.size)
    replace hra := hidI ((hra.out.below hbn).mono hbn.size)
    replace hrb := hidI ((hrb.out.below hbn).mono hbn.size)
    replace hru := hidI ((hru.out.below hbn).mono hbn.size)
    replace hrv := hidI ((hrv.out.below hbn).mono hbn.size)
    replace hcode := hidI (codeIn_mono (hcode.out.below hbn) hbn.size)
    clear hbn hb12
    clear hra
    clear hrb
    obtain ⟨eb, heb⟩ : ∃ b, b = decide (U0 = V0) := ⟨_, rfl⟩
    have hee : (eb == eb) = true := by simp
    replace heb := hidI heb
    go_wp2_with fail
    refine (equal_any w13 w13.heap.size vru vrv U0 V0 hru.out hrv.out).mono ?_
    rw [← heb.out]
    rintro e w14 ⟨rfl, nq, hwq⟩
    have hbn : Below w13.heap.size w13 w14 := by rw [hwq]; exact below_dn (Below.refl _ _) nq
    clear hwq
    have hb14 := hb13.trans (hbn.mono hb13.size)
    replace hru := hidI ((hru.out.below hbn).mono hbn.size)
    replace hrv := hidI ((hrv.out.below hbn).mono hbn.size)
    replace hcode := hidI (codeIn_mono (hcode.out.below hbn) hbn.size)
    clear hbn hb13
    go_wp2_with fail
    refine (specEqu w14 w14.heap.size vru vrv U0 V0 hru.out hrv.out).mono ?_
    rw [← heb.out]
    rintro e w15 ⟨rfl, nq, hwq⟩
    have hbn : Below w14.heap.size w14 w15 := by rw [hwq]; exact below_dn (Below.refl _ _) nq
    clear hwq
    have hb15 := hb14.trans (hbn.mono hb14.size)
    replace hru := hidI ((hru.out.below hbn).mono hbn.size)
    replace hrv := hidI ((hrv.out.below hbn).mono hbn.size)
    replace hcode := hidI (codeIn_mono (hcode.out.below hbn) hbn.size)
    clear hbn hb14
    go_wp2_with fail
    go_ret
    exact ⟨rfl, hb15⟩
theorem walk (W : World) (a0 : Option Addr) (len0 cap0 : Nat) (z0 : List Int) (w0 : IsRow .u8 W a0 len0 cap0 z0) :
    Calls Try.prog 4 #[.slice a0 len0 cap0] W fun e w' => e = .returned (.bool true) ∧ Below W.heap.size W w' := by
  by_cases hbig : 1048576 < len0
  · go_enter Try.func4, Try.ntmps4
    go_wp2_with fail
    refine (big_yes _ a0 len0 cap0 hbig).mono ?_
    rintro e w1 ⟨rfl, rfl⟩
    go_wp2_with fail
    go_ret
    exact ⟨rfl, Below.refl _ _⟩
  · exact walk0 W a0 len0 cap0 (codeIn_row w0 (by omega)) (row_cap w0)

/-! ### The row's step -/
set_option maxRecDepth 100000 in
theorem lifted (os : Os) (started : os.Started) (H : Type) (enc : TypeId × Value → H) :
    ReturnsInHanded {} Try.checked os 4 .any (Rows.fnTextsSpec.pre6 enc Try.prog Try.f4 Rows.fnTextsRow.domain false) (Rows.fnTextsSpec.post enc Try.prog Try.f4 false true false false) := by
  refine returnsInHanded_of_change (C := Try.checked) own started (by kernel_rfl) Try.func4
    (ChangeSpec.witness6 (enc := enc) (C := Try.checked) false ⟨#[], #[.slice none 0 0], []⟩ 8 (by kernel_rfl) (by kernel_rfl) (by kernel_rfl) (by kernel_rfl)) ?_
  intro W base args ds gs before hval0 hW hcnd _
  have hval : ∀ (j : Nat) t v, Try.f4.params[j]? = some t → args[j]? = some v → Value.okWide Try.prog W .any base t v := hval0
  have hW' := hW
  obtain ⟨p, q, hA0, hV, rfl, hfz, hnd⟩ := hW
  have hA : DataW.TrodAll enc Try.prog W 0 (fun _ => true) true Try.f4.params.toList args.toList ds p := hA0
  rw [Try.params4] at hA hval
  obtain ⟨v0, vs0, d0, ds0, p0, q0, hargs, rfl, rfl, h0, r0⟩ := trodAll_cons hA
  obtain ⟨rfl, rfl, rfl⟩ := trodAll_nil r0
  obtain rfl : args = #[v0] := by cases args; simp_all
  obtain ⟨rfl, rfl⟩ := trodVars_none hV
  obtain ⟨a0, len0, cap0, rfl⟩ := okWide_slice Try.underlying22 (hval 0 22 v0 rfl rfl)
  have k0 := h0
  have lt0 : ∀ x ∈ p0, x.block < W.heap.size := by obtain ⟨m, hm⟩ := k0; exact DataW.trod_lt m _ _ _ hm
  obtain ⟨z0, w0⟩ : ∃ zs, IsRow .u8 W a0 len0 cap0 zs := by
    obtain ⟨fuel, hf⟩ := h0
    rcases open_ints Try.underlying22 Try.underlying5 (by kernel_rfl) hf with ⟨hcs, _⟩ | ⟨x, l, c, zs, hcs, _, hl, hm, hz, _, hcell, hwz⟩
    · simp [Value.cells] at hcs
      obtain ⟨rfl, rfl, rfl⟩ := hcs
      exact ⟨[], .inl ⟨rfl, rfl, rfl, rfl⟩⟩
    · simp [Value.cells] at hcs
      obtain ⟨rfl, rfl, rfl⟩ := hcs
      exact ⟨zs, .inr ⟨_, rfl, hl, hm, by simpa using hz, hcell, hwz⟩⟩
  clear hA0 hval0
  refine (walk W a0 len0 cap0 z0 w0).mono fun e W' ⟨he, hg⟩ => ?_
  subst he
  exact ⟨_, rfl, _, _, _, [], _, [], hW', trodAll_mk1 (shut_bool Try.underlying4 _), (trodAll_cons_mk (Below.trod laidOut (by kernel_rfl) (of_decide_eq_true (by kernel_rfl)) k0 hg lt0) trodAll_mk0), rfl, hg.frame _, fun h => by cases h⟩

theorem over : Rows.fnTextsRow.holds Try.pinned (OpenSpec.ofChange Rows.fnTextsSpec) :=
  OpenClaim.holds_of_wide 4 Try.f4 rfl rfl rfl rfl rfl rfl rfl ⟨rfl, rfl, rfl, rfl, rfl⟩ rfl rfl rfl rfl rfl (by kernel_rfl) Try.func4 (by kernel_rfl)
    (of_decide_eq_true (by kernel_rfl)) (by unfold Func.isWrapper; first | (rw [if_pos (by decide +kernel)]; kernel_rfl) | (rw [if_neg (by decide +kernel)]; exact ⟨rfl, rfl⟩))
    (fun os started H enc _ => lifted os started H enc)

theorem proved : Rows.FnTextsSaid := over
#print axioms proved
end Go.Proofs.Ythjlemcnddkjgaa.fnTexts
