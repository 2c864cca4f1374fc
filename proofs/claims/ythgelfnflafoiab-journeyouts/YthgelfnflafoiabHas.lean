/-
  What Has and Size of the program answer.
-/
import Derived.Test.YthgelfnflafoiabChk
namespace Go.Proofs.Ythgelfnflafoiab
open Go.RowKit

end Go.Proofs.Ythgelfnflafoiab
