/-
  What Encode of the program answers.
-/
import Derived.Test.YteibdmfcclkjpadPkB
namespace Go.Proofs.Yteibdmfcclkjpad
open Go.RowKit

theorem sum_byte (d : Nat) : IntKind.u8.wrap (d : Int) = ((UInt8.ofNat (d % 256)).toNat : Int) := bytes_lo
theorem sum4_is (sm : Nat) : (sum4 sm 4).map bv = [.int .u8 ((UInt8.ofNat (sm % 256)).toNat : Int), .int .u8 ((UInt8.ofNat (sm / 256 % 256)).toNat : Int), .int .u8 ((UInt8.ofNat (sm / 65536 % 256)).toNat : Int), .int .u8 ((UInt8.ofNat (sm / 16777216 % 256)).toNat : Int)] := by
  simp [sum4, bv]

end Go.Proofs.Yteibdmfcclkjpad
