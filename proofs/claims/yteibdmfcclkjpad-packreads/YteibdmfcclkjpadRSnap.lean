/-
  What leg and Alive of the reference tell.
-/
import Derived.Test.YteibdmfcclkjpadSnap
namespace Go.Proofs.Yteibdmfcclkjpad
open Go.RowKit

end Go.Proofs.Yteibdmfcclkjpad
