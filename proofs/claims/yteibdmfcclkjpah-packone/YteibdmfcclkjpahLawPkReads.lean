/-
  The law PackReads, walked.
-/
import Derived.Test.YteibdmfcclkjpahPkCon
import Derived.Test.YteibdmfcclkjpahSame
namespace Go.Proofs.Yteibdmfcclkjpah
open Go.RowKit

end Go.Proofs.Yteibdmfcclkjpah
