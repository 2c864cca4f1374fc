/-
  What Has and Size of the program answer.
-/
import Derived.Test.YtlpidhldcabhoaeDoorChk
namespace Go.Proofs.YtlpidhldcabhoaeDoor
open Go.RowKit

end Go.Proofs.YtlpidhldcabhoaeDoor
