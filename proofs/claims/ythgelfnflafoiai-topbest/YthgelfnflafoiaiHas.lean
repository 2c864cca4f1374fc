/-
  What Has and Size of the program answer.
-/
import Derived.Test.YthgelfnflafoiaiChk
namespace Go.Proofs.Ythgelfnflafoiai
open Go.RowKit

end Go.Proofs.Ythgelfnflafoiai
