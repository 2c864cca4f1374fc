/-
  What leg and Alive of the reference tell.
-/
import Derived.Test.YtjjhhmlogddnkaiDoorSnap
namespace Go.Proofs.YtjjhhmlogddnkaiDoor
open Go.RowKit

end Go.Proofs.YtjjhhmlogddnkaiDoor
