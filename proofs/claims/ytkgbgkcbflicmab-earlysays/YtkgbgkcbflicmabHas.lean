/-
  What Has and Size of the program answer.
-/
import Derived.Test.YtkgbgkcbflicmabChk
namespace Go.Proofs.Ytkgbgkcbflicmab
open Go.RowKit

end Go.Proofs.Ytkgbgkcbflicmab
