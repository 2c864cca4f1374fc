/-
  What Has and Size of the program answer.
-/
import Derived.Test.YtkgbgkcbflicmafChk
namespace Go.Proofs.Ytkgbgkcbflicmaf
open Go.RowKit

end Go.Proofs.Ytkgbgkcbflicmaf
