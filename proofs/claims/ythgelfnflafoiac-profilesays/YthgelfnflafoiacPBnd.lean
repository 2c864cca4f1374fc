/-
  What bounds of the program's maps answers: all ends of the pieces, in order, in memory of its own.
-/
import Derived.Test.YthgelfnflafoiacPChk
namespace Go.Proofs.Ythgelfnflafoiac
open Go.RowKit

end Go.Proofs.Ythgelfnflafoiac
