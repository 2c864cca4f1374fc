/-
  What Join and Joins of the program answer: two values put together.
-/
import Derived.Test.YtanbbkoleekmjacPk1
import Derived.Test.YtanbbkoleekmjacMTurns
namespace Go.Proofs.Ytanbbkoleekmjac
open Go.RowKit

end Go.Proofs.Ytanbbkoleekmjac
