/-
  What Has and Size of the program answer.
-/
import Derived.Test.YthgelfnflafoiaeDoorChk
namespace Go.Proofs.YthgelfnflafoiaeDoor
open Go.RowKit

end Go.Proofs.YthgelfnflafoiaeDoor
