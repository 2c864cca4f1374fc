/-
  What Has and Size of the program answer.
-/
import Derived.Test.YtjlnokjaabcldaeChk
namespace Go.Proofs.Ytjlnokjaabcldae
open Go.RowKit

end Go.Proofs.Ytjlnokjaabcldae
