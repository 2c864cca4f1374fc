/-
  What bounds of the program's maps answers: all ends of the pieces, in order, in memory of its own.
-/
import Derived.Test.YtanbbkoleekmjagPChk
namespace Go.Proofs.Ytanbbkoleekmjag
open Go.RowKit

end Go.Proofs.Ytanbbkoleekmjag
