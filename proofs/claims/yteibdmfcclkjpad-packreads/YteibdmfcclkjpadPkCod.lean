/-
  What Coded of the reference answers.
-/
import Derived.Test.YteibdmfcclkjpadPkNum
import Derived.Test.YteibdmfcclkjpadPkSum
import Derived.Laws.IdiomStrings
namespace Go.Proofs.Yteibdmfcclkjpad
open Go.RowKit

theorem Try.infoByteP : (Try.prog.info? 5).map (fun i => (i.zero, i.size, i.bytes)) = some (some (.int .u8 0), 1, 1) := by kernel_rfl
/-- a byte's value -/
def bv (b : UInt8) : Value := .int .u8 (b.toNat : Int)

theorem wrap_u8 (n : Int) (h0 : 0 ≤ n) (h1 : n < 256) : IntKind.u8.wrap n = n := by simp [IntKind.wrap, IntKind.bits, IntKind.signed]; omega
theorem byte_hi {x : Nat} (h : x < 65536) : IntKind.u8.wrap (IntKind.i64.wrap ((x : Int) / 256)) = ((UInt8.ofNat (x / 256)).toNat : Int) := by
  rw [wrap_q _ (by omega) (by omega), wrap_u8 _ (by omega) (by omega), UInt8.toNat_ofNat']
  omega
theorem byte_lo {x : Nat} : IntKind.u8.wrap ((x : Int).tmod 256) = ((UInt8.ofNat (x % 256)).toNat : Int) := by
  rw [Int.tmod_eq_emod_of_nonneg (Int.natCast_nonneg x), wrap_u8 _ (by omega) (by omega), UInt8.toNat_ofNat']
  omega
theorem code1_nat (x : Nat) : (code1 (x : Int)).map bv = [.int .u8 ((UInt8.ofNat (x / 256)).toNat : Int), .int .u8 ((UInt8.ofNat (x % 256)).toNat : Int)] := rfl
end Go.Proofs.Yteibdmfcclkjpad
