/-
  What legAt and At of the program's graphs answer; what leg, Alive and Snap of the reference tell.
-/
import Derived.Test.YteibdmfcclkjpadGCheck
import Derived.Test.YteibdmfcclkjpadSnMath
import Derived.Test.YteibdmfcclkjpadSBase
import Derived.Deep.RegionHeld3
namespace Go.Proofs.Yteibdmfcclkjpad
open Go.RowKit

/-- what a search for a leg tells -/
def legV (o : Option Lg) : Value := .tuple #[.agg #[.int .i64 (o.getD (0, 0, 0, 0)).1, .int .i64 (o.getD (0, 0, 0, 0)).2.1, .int .i64 (o.getD (0, 0, 0, 0)).2.2.1, .int .i64 (o.getD (0, 0, 0, 0)).2.2.2], .bool o.isSome]

end Go.Proofs.Yteibdmfcclkjpad
