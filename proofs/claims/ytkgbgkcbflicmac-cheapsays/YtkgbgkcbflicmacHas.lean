/-
  What Has and Size of the program answer.
-/
import Derived.Test.YtkgbgkcbflicmacChk
namespace Go.Proofs.Ytkgbgkcbflicmac
open Go.RowKit

end Go.Proofs.Ytkgbgkcbflicmac
