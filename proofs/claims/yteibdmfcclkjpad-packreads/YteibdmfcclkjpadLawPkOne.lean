/-
  The law PackOne, walked.
-/
import Derived.Test.YteibdmfcclkjpadPkCon
import Derived.Test.YteibdmfcclkjpadPkBack
namespace Go.Proofs.Yteibdmfcclkjpad
open Go.RowKit

theorem dec_large : (decA [0, 5, 0, 13]).2.2 = 2 := by rfl
theorem dec_bad {s : List UInt8} (h : ¬ (decA s).2.2 = 0) : (decA s).1.hor = 0 ∧ (decA s).2.1 = 0 := by
  revert h
  unfold decA
  repeat' (first | split | simp)

end Go.Proofs.Yteibdmfcclkjpad
