/-
  What Check of the program's maps answers, for every list.
-/
import Derived.Test.YtanbbkoleekmjacPChk
import Derived.Test.YtanbbkoleekmjacPk1
namespace Go.Proofs.Ytanbbkoleekmjac
open Go.RowKit

end Go.Proofs.Ytanbbkoleekmjac
