/-
  What Has and Size of the program answer.
-/
import Derived.Test.YteibdmfcclkjpacChk
namespace Go.Proofs.Yteibdmfcclkjpac
open Go.RowKit

end Go.Proofs.Yteibdmfcclkjpac
