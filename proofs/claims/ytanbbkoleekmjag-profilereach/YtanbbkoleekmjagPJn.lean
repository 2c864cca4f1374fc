/-
  What Join and Joins of the program answer: two values put together.
-/
import Derived.Test.YtanbbkoleekmjagPk1
import Derived.Test.YtanbbkoleekmjagMTurns
namespace Go.Proofs.Ytanbbkoleekmjag
open Go.RowKit

end Go.Proofs.Ytanbbkoleekmjag
