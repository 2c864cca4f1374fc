/-
  What Has and Size of the program answer.
-/
import Derived.Test.YtjjhhmlogddnkaeDoorPk1
namespace Go.Proofs.YtjjhhmlogddnkaeDoor
open Go.RowKit

end Go.Proofs.YtjjhhmlogddnkaeDoor
