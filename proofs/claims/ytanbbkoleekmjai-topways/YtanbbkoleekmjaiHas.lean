/-
  What Has and Size of the program answer.
-/
import Derived.Test.YtanbbkoleekmjaiChk
namespace Go.Proofs.Ytanbbkoleekmjai
open Go.RowKit

end Go.Proofs.Ytanbbkoleekmjai
