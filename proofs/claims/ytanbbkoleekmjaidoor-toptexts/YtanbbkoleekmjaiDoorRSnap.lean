/-
  What leg and Alive of the reference tell.
-/
import Derived.Test.YtanbbkoleekmjaiDoorSnap
namespace Go.Proofs.YtanbbkoleekmjaiDoor
open Go.RowKit

end Go.Proofs.YtanbbkoleekmjaiDoor
