/- Strings out of byte slices, at this program. -/
import Derived.Test.YtdacfnoemjleiaaA
import Derived.Test.YtdacfnoemjleiaaM
import Derived.Laws.IdiomStrings
namespace Go.Proofs.Ytdacfnoemjleiaa
open Go.RowKit
set_option linter.unusedVariables false

/-- The value of a byte. -/
def bv (b : UInt8) : Value := .int .u8 (b.toNat : Int)

/-- string([]byte{b}) in a block that the call has just laid. -/
theorem conv_one (w : World) (n : Int) (b : UInt8) (h : n = (b.toNat : Int)) :
    (convert 36 9 (.slice (some ⟨w.heap.size, 0, none⟩) 1 1)).run Try.prog (w.alloc (.cells #[.int .u8 n] 5)) = .ok (.string ⟨#[b]⟩) (w.alloc (.cells #[.int .u8 n] 5)) := by
  subst h
  exact run_convert_bytes_back (P := Try.prog) (w.alloc (.cells #[.int .u8 (b.toNat : Int)] 5)) 36 9 5 ⟨w.heap.size, 0, none⟩ 1 [b] Try.underlying36 Try.underlying5 Try.underlying9 (by
    intro j hj
    simp at hj
    subst hj
    simp [Addr.add])

/-- string(v) where v owns the bytes bs. -/
theorem conv_own {w : World} {base : Nat} {v : Value} {bs : List UInt8} (h : w.ownsRow base 5 1 v bs.length (bs.map bv)) :
    (convert 36 9 v).run Try.prog w = .ok (.string ⟨bs.toArray⟩) w := by
  have hcs : ∀ g, v.ownBlock = some g → _ := fun g hg => h.cells (g := g) hg
  obtain ⟨hlen, ⟨rfl, hn⟩ | ⟨g, cap, cur, rfl, hg, hh, hcap, hmax, hsz, htk⟩⟩ := h
  · have : bs = [] := List.length_eq_zero_iff.1 hn
    subst this
    rw [run_convert_bytes_string w 36 9 5 none 0 0 Try.underlying36 Try.underlying5 Try.underlying9]
    simp [Conv.bytesToString, Sem.run_pure]
    rfl
  · exact run_convert_bytes_back (P := Try.prog) w 36 9 5 ⟨g, 0, none⟩ cap bs Try.underlying36 Try.underlying5 Try.underlying9 (by
      intro j hj
      exact hcs g rfl j _ (by simp [hj, bv]))
theorem info8 : (Try.prog.info? 5).map (fun i => (i.zero, i.size, i.bytes)) = some (some (.int .u8 0), 1, 1) := by kernel_rfl
theorem made_bytes (n : Nat) : (madeCells #[Value.int .u8 0] n).toList = (List.replicate n (0 : UInt8)).map bv := by
  rw [toList_madeCells_one]
  simp [bv]
theorem bv_ofNat (n : Nat) : bv (UInt8.ofNat n) = .int .u8 ((n % 256 : Nat) : Int) := by simp [bv]
theorem bv_shift (n k : Nat) : Value.int .u8 ((n : Int) / 2 ^ (8 * k) % 256) = bv (UInt8.ofNat (n / 256 ^ k)) := by
  rw [shift_nat, bv_ofNat]; rfl
end Go.Proofs.Ytdacfnoemjleiaa
