/-
  What leg and Alive of the reference tell.
-/
import Derived.Test.YtkgbgkcbflicmaiDoorSnap
namespace Go.Proofs.YtkgbgkcbflicmaiDoor
open Go.RowKit

end Go.Proofs.YtkgbgkcbflicmaiDoor
