/-
  What Has and Size of the program answer.
-/
import Derived.Test.YtjlnokjaabcldabDoorChk
namespace Go.Proofs.YtjlnokjaabcldabDoor
open Go.RowKit

end Go.Proofs.YtjlnokjaabcldabDoor
