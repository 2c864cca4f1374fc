/-
  What Merge of the program's maps answers.
-/
import Derived.Test.YtanbbkoleekmjagPBld
import Derived.Test.YtanbbkoleekmjagPBnd
import Derived.Test.YtanbbkoleekmjagPCheck
import Derived.Test.YtanbbkoleekmjagMTurns
import Derived.Test.YtanbbkoleekmjagBox
import Derived.Test.YtanbbkoleekmjagPJn
namespace Go.Proofs.Ytanbbkoleekmjag
open Go.RowKit

end Go.Proofs.Ytanbbkoleekmjag
