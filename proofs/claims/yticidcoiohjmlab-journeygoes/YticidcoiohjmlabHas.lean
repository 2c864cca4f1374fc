/-
  What Has and Size of the program answer.
-/
import Derived.Test.YticidcoiohjmlabChk
namespace Go.Proofs.Yticidcoiohjmlab
open Go.RowKit

end Go.Proofs.Yticidcoiohjmlab
