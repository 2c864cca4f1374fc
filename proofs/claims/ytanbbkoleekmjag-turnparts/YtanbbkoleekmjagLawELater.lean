/-
  The laws EarlyLater, EarlyBack and EarlyVia, walked.
-/
import Derived.Test.YtanbbkoleekmjagLawEKeep
namespace Go.Proofs.Ytanbbkoleekmjag
open Go.RowKit

theorem arrA_ok {g : Gr} {v t : Int} (h : placeE g v t = 0) : arrA g v t = (erF g v t).1 := by unfold arrA; rw [if_pos h]
theorem depA_ok {g : Gr} {v t : Int} (h : placeE g v t = 0) : depA g v t = ltF g v t := by unfold depA; rw [if_pos h]

end Go.Proofs.Ytanbbkoleekmjag
