/-
  Three laws of stage 12, of the program: its sentences put into the walks.
-/
import Derived.Test.YteibdmfcclkjpahPkE
import Derived.Test.YteibdmfcclkjpahPkK
import Derived.Test.YteibdmfcclkjpahLawPkReads
import Derived.Test.YteibdmfcclkjpahLawPkOne
import Derived.Test.YteibdmfcclkjpahLawPkBk
namespace Go.Proofs.Yteibdmfcclkjpah
open Go.RowKit

theorem packOne_walk (s : ByteArray) (w : World) (hs : s.size ≤ 140737488351232) :
    Calls Try.prog 4 #[.string s] w fun r w' => r = .returned (.bool true) ∧ Below w.heap.size w w' :=
  packOne_over pDec_any pEnc_any s w (by omega)

theorem packBack_walk (g : Gr) (la ea : Option Addr) (lc ec : Nat) (s : ByteArray) (at_ : Int) (w : World) (hG : GAt w la ea g) (hs : s.size ≤ 140737488351232) :
    Calls Try.prog 3 #[.agg #[.int .i64 g.hor, .slice la g.lives.length lc, .slice ea g.edges.length ec], .string s, .int .i64 at_] w fun r w' => r = .returned (.bool true) ∧ Below w.heap.size w w' :=
  packBack_over pSum_any pDec_any pEnc_any g la ea lc ec s at_ w hG hs

end Go.Proofs.Yteibdmfcclkjpah
