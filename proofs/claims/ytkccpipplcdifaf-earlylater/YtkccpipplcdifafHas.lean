/-
  What Has and Size of the program answer.
-/
import Derived.Test.YtkccpipplcdifafChk
namespace Go.Proofs.Ytkccpipplcdifaf
open Go.RowKit

end Go.Proofs.Ytkccpipplcdifaf
