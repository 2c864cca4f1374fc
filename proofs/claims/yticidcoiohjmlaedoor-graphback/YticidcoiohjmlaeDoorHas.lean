/-
  What Has and Size of the program answer.
-/
import Derived.Test.YticidcoiohjmlaeDoorChk
namespace Go.Proofs.YticidcoiohjmlaeDoor
open Go.RowKit

end Go.Proofs.YticidcoiohjmlaeDoor
