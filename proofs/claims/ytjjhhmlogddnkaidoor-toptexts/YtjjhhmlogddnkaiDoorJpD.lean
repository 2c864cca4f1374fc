/-
  What Out of the program's journeys answers.
-/
import Derived.Test.YtjjhhmlogddnkaiDoorErA
import Derived.Test.YtjjhhmlogddnkaiDoorRJn
namespace Go.Proofs.YtjjhhmlogddnkaiDoor
open Go.RowKit

theorem Tryd.infoHopJ : (Tryd.prog.info? 43).map (fun i => (i.zero, i.size, i.bytes)) = some (some (.agg #[.int .i64 0, .int .i64 0]), 2, 16) := by kernel_rfl
theorem stopHere {p : Prop} (h : Hid p) : p := h
theorem encs_appj (a b : List (Int × Int)) : encs (a ++ b) = encs a ++ encs b := by simp [encs, flat]
/-- what Out answers -/
def outAns (g : Gr) (v t : Int) : List Hp := if placeE g v t = 0 then outsF g v t else []

theorem results_two_j {fn : Func} {t u : Tmp} (h : fn.results = #[.tmp t, .tmp u]) (tmps : Array Value) (P : Program) (w : World) :
    (results fn tmps).run P w = .ok (.tuple #[tmps.getD t undef, tmps.getD u undef]) w := by
  simp [results, h]

end Go.Proofs.YtjjhhmlogddnkaiDoor
