/-
  What Has and Size of the program answer.
-/
import Derived.Test.YtkccpipplcdifabChk
namespace Go.Proofs.Ytkccpipplcdifab
open Go.RowKit

end Go.Proofs.Ytkccpipplcdifab
