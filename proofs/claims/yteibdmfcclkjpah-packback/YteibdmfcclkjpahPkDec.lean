/-
  What Decoded of the reference answers.
-/
import Derived.Test.YteibdmfcclkjpahPkDMath
import Derived.Test.YteibdmfcclkjpahPkCod
import Derived.Test.YteibdmfcclkjpahRGraph
namespace Go.Proofs.Yteibdmfcclkjpah
open Go.RowKit

theorem Try.infoIvlP : (Try.prog.info? 44).map (fun i => (i.zero, i.size, i.bytes)) = some (some (.agg #[.int .i64 0, .int .i64 0]), 2, 16) := by kernel_rfl
theorem Try.infoLegP : (Try.prog.info? 70).map (fun i => (i.zero, i.size, i.bytes)) = some (some (.agg #[.int .i64 0, .int .i64 0, .int .i64 0, .int .i64 0]), 4, 32) := by kernel_rfl
theorem Try.infoEdgeP : (Try.prog.info? 68).map (fun i => (i.zero, i.size, i.bytes)) = some (some (.agg #[.int .i64 0, .int .i64 0, .slice none 0 0]), 3, 40) := by kernel_rfl

end Go.Proofs.Yteibdmfcclkjpah
