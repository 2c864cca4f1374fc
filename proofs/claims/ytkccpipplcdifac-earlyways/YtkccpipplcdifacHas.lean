/-
  What Has and Size of the program answer.
-/
import Derived.Test.YtkccpipplcdifacChk
namespace Go.Proofs.Ytkccpipplcdifac
open Go.RowKit

end Go.Proofs.Ytkccpipplcdifac
