/-
  What Join and Joins of the program answer: two values put together.
-/
import Derived.Test.YthgelfnflafoiagPk1
import Derived.Test.YthgelfnflafoiagMTurns
namespace Go.Proofs.Ythgelfnflafoiag
open Go.RowKit

end Go.Proofs.Ythgelfnflafoiag
