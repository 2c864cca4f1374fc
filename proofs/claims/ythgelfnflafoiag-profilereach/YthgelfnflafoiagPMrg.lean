/-
  What Merge of the program's maps answers.
-/
import Derived.Test.YthgelfnflafoiagPBld
import Derived.Test.YthgelfnflafoiagPBnd
import Derived.Test.YthgelfnflafoiagPCheck
import Derived.Test.YthgelfnflafoiagMTurns
import Derived.Test.YthgelfnflafoiagBox
import Derived.Test.YthgelfnflafoiagPJn
namespace Go.Proofs.Ythgelfnflafoiag
open Go.RowKit

end Go.Proofs.Ythgelfnflafoiag
