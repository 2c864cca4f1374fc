/-
  Three laws of stage 12, of the program: its sentences put into the walks.
-/
import Derived.Test.YteibdmfcclkjpadPkE
import Derived.Test.YteibdmfcclkjpadPkK
import Derived.Test.YteibdmfcclkjpadLawPkReads
import Derived.Test.YteibdmfcclkjpadLawPkOne
import Derived.Test.YteibdmfcclkjpadLawPkBk
namespace Go.Proofs.Yteibdmfcclkjpad
open Go.RowKit

theorem packReads_walk (s : ByteArray) (w : World) (hs : s.size ≤ 140737488351232) :
    Calls Try.prog 3 #[.string s] w fun r w' => r = .returned (.bool true) ∧ Below w.heap.size w w' :=
  packReads_over pDec_any s w (by omega)

end Go.Proofs.Yteibdmfcclkjpad
