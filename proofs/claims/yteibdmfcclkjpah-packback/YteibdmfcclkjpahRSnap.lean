/-
  What leg and Alive of the reference tell.
-/
import Derived.Test.YteibdmfcclkjpahSnap
namespace Go.Proofs.Yteibdmfcclkjpah
open Go.RowKit

end Go.Proofs.Yteibdmfcclkjpah
