/-
  What Has and Size of the program answer.
-/
import Derived.Test.YthgelfnflafoiacChk
namespace Go.Proofs.Ythgelfnflafoiac
open Go.RowKit

end Go.Proofs.Ythgelfnflafoiac
