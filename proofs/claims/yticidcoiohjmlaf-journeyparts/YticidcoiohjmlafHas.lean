/-
  What Has and Size of the program answer.
-/
import Derived.Test.YticidcoiohjmlafChk
namespace Go.Proofs.Yticidcoiohjmlaf
open Go.RowKit

end Go.Proofs.Yticidcoiohjmlaf
