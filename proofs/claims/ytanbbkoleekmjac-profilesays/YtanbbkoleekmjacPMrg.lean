/-
  What Merge of the program's maps answers.
-/
import Derived.Test.YtanbbkoleekmjacPBld
import Derived.Test.YtanbbkoleekmjacPBnd
import Derived.Test.YtanbbkoleekmjacPCheck
import Derived.Test.YtanbbkoleekmjacMTurns
import Derived.Test.YtanbbkoleekmjacBox
import Derived.Test.YtanbbkoleekmjacPJn
namespace Go.Proofs.Ytanbbkoleekmjac
open Go.RowKit

end Go.Proofs.Ytanbbkoleekmjac
