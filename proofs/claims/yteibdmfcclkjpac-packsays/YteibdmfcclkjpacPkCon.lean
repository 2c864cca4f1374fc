/-
  What the package pack of the program is to answer: three sentences, which the laws' walks ask for.
-/
import Derived.Test.YteibdmfcclkjpacPkDec
import Derived.Test.YteibdmfcclkjpacJpA
namespace Go.Proofs.Yteibdmfcclkjpac
open Go.RowKit

/-- what Encode answers -/
def encA (g : Gr) : List UInt8 × Int := if gChk g = 0 then (coded g, 0) else ([], gChk g)

def SumOk : Prop := ∀ (s : ByteArray) (w : World), s.size ≤ 4611686018427387904 → Calls Try.prog 38 #[.string s] w fun r w' => r = .returned (.int .u32 (sumL s.data.toList : Int)) ∧ Below w.heap.size w w'

def EncOk : Prop := ∀ (g : Gr) (la ea : Option Addr) (lc ec : Nat) (w : World), GAt w la ea g →
    Calls Try.prog 37 #[.agg #[.int .i64 g.hor, .slice la g.lives.length lc, .slice ea g.edges.length ec]] w fun r w' => r = .returned (.tuple #[.string ⟨(encA g).1.toArray⟩, .int .i64 (encA g).2]) ∧ Below w.heap.size w w'

end Go.Proofs.Yteibdmfcclkjpac
