/-
  What Has and Size of the program answer.
-/
import Derived.Test.YthgelfnflafoiafChk
namespace Go.Proofs.Ythgelfnflafoiaf
open Go.RowKit

end Go.Proofs.Ythgelfnflafoiaf
