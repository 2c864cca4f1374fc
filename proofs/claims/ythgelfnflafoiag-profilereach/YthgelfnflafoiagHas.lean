/-
  What Has and Size of the program answer.
-/
import Derived.Test.YthgelfnflafoiagChk
namespace Go.Proofs.Ythgelfnflafoiag
open Go.RowKit

end Go.Proofs.Ythgelfnflafoiag
