/-
  What Coded of the reference answers.
-/
import Derived.Test.YteibdmfcclkjpahPkNum
import Derived.Test.YteibdmfcclkjpahPkSum
import Derived.Laws.IdiomStrings
namespace Go.Proofs.Yteibdmfcclkjpah
open Go.RowKit

theorem Try.infoByteP : (Try.prog.info? 5).map (fun i => (i.zero, i.size, i.bytes)) = some (some (.int .u8 0), 1, 1) := by kernel_rfl
/-- a byte's value -/
def bv (b : UInt8) : Value := .int .u8 (b.toNat : Int)

theorem wrap_u8 (n : Int) (h0 : 0 ≤ n) (h1 : n < 256) : IntKind.u8.wrap n = n := by simp [IntKind.wrap, IntKind.bits, IntKind.signed]; omega
theorem byte_hi {x : Nat} (h : x < 65536) : IntKind.u8.wrap (IntKind.i64.wrap ((x : Int) / 256)) = ((UInt8.ofNat (x / 256)).toNat : Int) := by
  rw [wrap_q _ (by omega) (by omega), wrap_u8 _ (by omega) (by omega), UInt8.toNat_ofNat']
  omega
theorem byte_lo {x : Nat} : IntKind.u8.wrap ((x : Int).tmod 256) = ((UInt8.ofNat (x % 256)).toNat : Int) := by
  rw [Int.tmod_eq_emod_of_nonneg (Int.natCast_nonneg x), wrap_u8 _ (by omega) (by omega), UInt8.toNat_ofNat']
  omega
theorem code1_nat (x : Nat) : (code1 (x : Int)).map bv = [.int .u8 ((UInt8.ofNat (x / 256)).toNat : Int), .int .u8 ((UInt8.ofNat (x % 256)).toNat : Int)] := rfl
/-- a row of bytes as a text -/
theorem row_text {w : World} {B n : Nat} {v : Value} {l : List UInt8} (h : w.ownsRow B 5 1 v n (l.map bv)) (hn : n = l.length) : (convert 35 9 v).run Try.prog w = .ok (.string ⟨l.toArray⟩) w := by
  subst hn
  rcases h.2 with ⟨e, h0⟩ | ⟨b, cap, cur, e, _, hh, _⟩
  · have hl : l = [] := List.eq_nil_of_length_eq_zero h0
    subst hl
    rw [e, run_convert_bytes_string w 35 9 5 none 0 0 Try.underlying35 Try.underlying5 Try.underlying9]
    rfl
  · rw [e]
    refine run_convert_bytes_back (P := Try.prog) w 35 9 5 ⟨b, 0, none⟩ cap l Try.underlying35 Try.underlying5 Try.underlying9 fun j hj => ?_
    exact h.cells (g := b) (by rw [e]; rfl) j (bv l[j]) (by rw [List.getElem?_map, List.getElem?_eq_getElem hj]; rfl)

end Go.Proofs.Yteibdmfcclkjpah
