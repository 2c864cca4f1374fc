/-
  What the package pack of the program is to answer: three sentences, which the laws' walks ask for.
-/
import Derived.Test.YteibdmfcclkjpadPkDec
import Derived.Test.YteibdmfcclkjpadJpA
namespace Go.Proofs.Yteibdmfcclkjpad
open Go.RowKit

/-- what Encode answers -/
def encA (g : Gr) : List UInt8 × Int := if gChk g = 0 then (coded g, 0) else ([], gChk g)

def SumOk : Prop := ∀ (s : ByteArray) (w : World), s.size ≤ 4611686018427387904 → Calls Try.prog 65 #[.string s] w fun r w' => r = .returned (.int .u32 (sumL s.data.toList : Int)) ∧ Below w.heap.size w w'

def DecOk : Prop := ∀ (s : ByteArray) (w : World), s.size ≤ 4611686018427387904 →
    Calls Try.prog 8 #[.string s] w fun r w' => ∃ la' ea' lc' ec', r = .returned (.tuple #[.agg #[.int .i64 (decA s.data.toList).1.hor, .slice la' (decA s.data.toList).1.lives.length lc', .slice ea' (decA s.data.toList).1.edges.length ec'], .int .i64 (decA s.data.toList).2.1, .int .i64 (decA s.data.toList).2.2]) ∧ GAt w' la' ea' (decA s.data.toList).1 ∧ Below w.heap.size w w'

end Go.Proofs.Yteibdmfcclkjpad
