/-
  The law PackSays, of the program: its sentences put into the walk.
-/
import Derived.Test.YteibdmfcclkjpacPkE
import Derived.Test.YteibdmfcclkjpacLawPkSays
namespace Go.Proofs.Yteibdmfcclkjpac
open Go.RowKit

theorem packSays_walk (g : Gr) (la ea : Option Addr) (lc ec : Nat) (s : ByteArray) (w : World) (hG : GAt w la ea g) (hs : s.size ≤ 140737488351232) :
    Calls Try.prog 8 #[.agg #[.int .i64 g.hor, .slice la g.lives.length lc, .slice ea g.edges.length ec], .string s] w fun r w' => r = .returned (.bool true) ∧ Below w.heap.size w w' :=
  packSays_over pSum_any pEnc_any g la ea lc ec s w hG (by omega)

end Go.Proofs.Yteibdmfcclkjpac
