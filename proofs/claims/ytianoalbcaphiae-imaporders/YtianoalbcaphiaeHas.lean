/-
  What Has and Size of the program answer.
-/
import Derived.Test.YtianoalbcaphiaeChk
namespace Go.Proofs.Ytianoalbcaphiae
open Go.RowKit

end Go.Proofs.Ytianoalbcaphiae
