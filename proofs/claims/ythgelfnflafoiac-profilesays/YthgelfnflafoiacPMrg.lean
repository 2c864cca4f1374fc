/-
  What Merge of the program's maps answers.
-/
import Derived.Test.YthgelfnflafoiacPBld
import Derived.Test.YthgelfnflafoiacPBnd
import Derived.Test.YthgelfnflafoiacPCheck
import Derived.Test.YthgelfnflafoiacMTurns
import Derived.Test.YthgelfnflafoiacBox
import Derived.Test.YthgelfnflafoiacPJn
namespace Go.Proofs.Ythgelfnflafoiac
open Go.RowKit

end Go.Proofs.Ythgelfnflafoiac
