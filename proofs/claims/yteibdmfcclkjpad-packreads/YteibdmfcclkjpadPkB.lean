/-
  What Encode of the program answers.
-/
import Derived.Test.YteibdmfcclkjpadPkA
import Derived.Test.YteibdmfcclkjpadGby
namespace Go.Proofs.Yteibdmfcclkjpad
open Go.RowKit

theorem bytes_hi {x : Nat} (h : x < 65536) : IntKind.u8.wrap ((x : Int) / 256) = ((UInt8.ofNat (x / 256)).toNat : Int) := by
  rw [wrap_u8 _ (by omega) (by omega), UInt8.toNat_ofNat']
  omega
theorem bytes_lo {x : Nat} : IntKind.u8.wrap (x : Int) = ((UInt8.ofNat (x % 256)).toNat : Int) := by
  rw [UInt8.toNat_ofNat']
  simp [IntKind.wrap, IntKind.bits, IntKind.signed]

end Go.Proofs.Yteibdmfcclkjpad
