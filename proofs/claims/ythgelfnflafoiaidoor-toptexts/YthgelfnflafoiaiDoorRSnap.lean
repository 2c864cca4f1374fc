/-
  What leg and Alive of the reference tell.
-/
import Derived.Test.YthgelfnflafoiaiDoorSnap
namespace Go.Proofs.YthgelfnflafoiaiDoor
open Go.RowKit

end Go.Proofs.YthgelfnflafoiaiDoor
