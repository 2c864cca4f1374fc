/-
  What Has and Size of the program answer.
-/
import Derived.Test.YtanbbkoleekmjacChk
namespace Go.Proofs.Ytanbbkoleekmjac
open Go.RowKit

end Go.Proofs.Ytanbbkoleekmjac
