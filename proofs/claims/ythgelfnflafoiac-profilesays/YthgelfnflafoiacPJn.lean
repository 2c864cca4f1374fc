/-
  What Join and Joins of the program answer: two values put together.
-/
import Derived.Test.YthgelfnflafoiacPk1
import Derived.Test.YthgelfnflafoiacMTurns
namespace Go.Proofs.Ythgelfnflafoiac
open Go.RowKit

end Go.Proofs.Ythgelfnflafoiac
