/-
  DERIVED. GIVEN WITH THE SEED: THE CARDS: each row of YtjlnokjaabcldabDoorRows.lean that lists a variable, with what it lists TIED to the program's text (the seventh form; the later family's looks); each row that meets fmt, with fmt's text TOLD by the authors' own Lean function (tested against real Go, not proved from fmt's source: count such statements apart). THE CARD IS WHAT COUNTS. Prove the row's statement (the work); the ties are given (YtjlnokjaabcldabDoorTie.lean); close each card by the builder's one call (the guide's Derived/Test/ToyasCard.lean, 'card_holds'). Laid BY PROGRAM, IN A SANDBOX (cutbox-door.mjs). By AI agents, Wed Nov 11 2026. No macro, syntax, notation, axiom, sorry.
-/
import Derived.Test.YtjlnokjaabcldabDoorRows
import GoSem.ClaimSeven
namespace Go.Proofs.YtjlnokjaabcldabDoor
namespace Rows

/-- THE TIED CARD OF 'timelaw.WarpSays'. -/
def warpSaysCard : Claim7 := { stood := { row := warpSaysRow, standIns := [], harness := (true, "e4d493e604a30485637c263e3f26f2d56aaff4d01cd5b28c34bc0c816d9b90d2"), looks := false }, kinds := [], alts := [], laidByText := true, laidKinds := [.data, .data, .data], laidTests := true, laidLooks := .later }
def WarpSaysCardSaid : Prop := Claim7.holds Tryd.pinned (.plain (OpenSpec.ofChange warpSaysSpec)) warpSaysCard

/-- THE SECOND FORM's CARD OF 'timelaw.WarpSays'. -/
def warpSaysUptoCard : Claim7 := { stood := { row := warpSaysUptoRow, standIns := [], harness := (true, "e4d493e604a30485637c263e3f26f2d56aaff4d01cd5b28c34bc0c816d9b90d2"), looks := false }, kinds := [], alts := [], laidByText := true, laidKinds := [.data, .data, .data], laidTests := true, laidLooks := .later }
def WarpSaysUptoCardSaid : Prop := Claim7.holds Tryd.pinned (.plain (OpenSpec.upto warpSaysSpec)) warpSaysUptoCard
end Rows
end Go.Proofs.YtjlnokjaabcldabDoor
