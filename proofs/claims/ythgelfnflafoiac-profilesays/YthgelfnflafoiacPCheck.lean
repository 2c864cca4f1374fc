/-
  What Check of the program's maps answers, for every list.
-/
import Derived.Test.YthgelfnflafoiacPChk
import Derived.Test.YthgelfnflafoiacPk1
namespace Go.Proofs.Ythgelfnflafoiac
open Go.RowKit

end Go.Proofs.Ythgelfnflafoiac
