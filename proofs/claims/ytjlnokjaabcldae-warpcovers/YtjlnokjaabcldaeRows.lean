/-
  No cell of these rows narrows 'for every input' (looked for: loops, veiled, ifaces, maps, wideKeys, modest, calm, conditions, laid).
  DERIVED. THE GIVEN ROWS OF THIS SEAT. 3 by the template 'for every input the law returns true; each argument reads behind the call as it read before'; 0 by the template 'total and deterministic' (their statements: YtjlnokjaabcldaeTotals.lean).
  GIVEN WITH THE SEED: the statements are not yours to turn. If you find one false, say at which input.
  Laid BY PROGRAM, IN A SANDBOX (cutbox-rows.mjs): the forced cells as the released guide's own fill.sh prints them over the translation 1e8d37dc55242be1… (all of the seat's roots in one cut). By AI agents, Wed Nov 11 2026. No macro, syntax, notation, axiom, sorry.
-/
import Derived.Test.YtjlnokjaabcldaeChecked
import GoSem.Claim
import GoSem.ClaimJoined
import GoSem.ClaimMapViews
import Derived.JoinedTies
import Derived.KernelRfl
namespace Go.Proofs.Ytjlnokjaabcldae
/- THE CELL 'sum', in the pinned program and in every row, IS THE sha256 OF THE DUMP (.gsa) THAT YtjlnokjaabcldaeProg.lean LOADS. Nothing in Lean hashes anything: it is a label: what it is worth is what the hold of that sum in a sandbox is worth. -/
noncomputable def Try.pinned : Pinned := { name := "ytjlnokjaabcldae", sum := "1e8d37dc55242be1bd8d3752c5e29e266d6e829f61a00687e96d072450d3d1b7", checked := Try.checked }
namespace Rows
def none {H : Type} : Left H := { results := [], args := [] }

/-- 'timekeep.ImapOrders': WHATEVER THE INPUT: true; the input reads as it did. -/
def imapOrdersSpec : ChangeSpec := { name := "imapOrders", fn := fun _ => fun
  | [d1, d2, d3, d4, d5] => { results := [.lit (.bool true)], args := [d1, d2, d3, d4, d5] }
  | _ => none }
def imapOrdersRow : OpenClaim := { program := "ytjlnokjaabcldae", sum := "1e8d37dc55242be1bd8d3752c5e29e266d6e829f61a00687e96d072450d3d1b7", func := "timeweft/timekeep.ImapOrders", spec := "imapOrders", unfollowed := true, recurses := true, apart := false }
def ImapOrdersSaid : Prop := imapOrdersRow.holds Try.pinned (OpenSpec.ofChange imapOrdersSpec)

/-- ITS FALSE NEIGHBOUR: 'it returns false'. Refute it at one input. -/
def imapOrdersWrong : ChangeSpec := { name := "imapOrders", fn := fun _ => fun
  | [d1, d2, d3, d4, d5] => { results := [.lit (.bool false)], args := [d1, d2, d3, d4, d5] }
  | _ => none }
def ImapOrdersWrongFalsely : Prop := imapOrdersRow.holds Try.pinned (OpenSpec.ofChange imapOrdersWrong)

/-- 'timekeep.PlainWays': WHATEVER THE INPUT: true; the input reads as it did. -/
def plainWaysSpec : ChangeSpec := { name := "plainWays", fn := fun _ => fun
  | [d1, d2] => { results := [.lit (.bool true)], args := [d1, d2] }
  | _ => none }
def plainWaysRow : OpenClaim := { program := "ytjlnokjaabcldae", sum := "1e8d37dc55242be1bd8d3752c5e29e266d6e829f61a00687e96d072450d3d1b7", func := "timeweft/timekeep.PlainWays", spec := "plainWays", unfollowed := true, recurses := true, apart := false }
def PlainWaysSaid : Prop := plainWaysRow.holds Try.pinned (OpenSpec.ofChange plainWaysSpec)

/-- ITS FALSE NEIGHBOUR: 'it returns false'. Refute it at one input. -/
def plainWaysWrong : ChangeSpec := { name := "plainWays", fn := fun _ => fun
  | [d1, d2] => { results := [.lit (.bool false)], args := [d1, d2] }
  | _ => none }
def PlainWaysWrongFalsely : Prop := plainWaysRow.holds Try.pinned (OpenSpec.ofChange plainWaysWrong)

/-- 'timekeep.WarpCovers': WHATEVER THE INPUT: true; the input reads as it did. -/
def warpCoversSpec : ChangeSpec := { name := "warpCovers", fn := fun _ => fun
  | [d1, d2, d3, d4] => { results := [.lit (.bool true)], args := [d1, d2, d3, d4] }
  | _ => none }
def warpCoversRow : OpenClaim := { program := "ytjlnokjaabcldae", sum := "1e8d37dc55242be1bd8d3752c5e29e266d6e829f61a00687e96d072450d3d1b7", func := "timeweft/timekeep.WarpCovers", spec := "warpCovers", unfollowed := true, recurses := true, apart := false }
def WarpCoversSaid : Prop := warpCoversRow.holds Try.pinned (OpenSpec.ofChange warpCoversSpec)

/-- ITS FALSE NEIGHBOUR: 'it returns false'. Refute it at one input. -/
def warpCoversWrong : ChangeSpec := { name := "warpCovers", fn := fun _ => fun
  | [d1, d2, d3, d4] => { results := [.lit (.bool false)], args := [d1, d2, d3, d4] }
  | _ => none }
def WarpCoversWrongFalsely : Prop := warpCoversRow.holds Try.pinned (OpenSpec.ofChange warpCoversWrong)

/- THE SECOND FORM. 'bulk': how many values and letters a reading holds, each counted each time it is reached (what is shared counts as often as it is met; a slice's spare places count too). A statement '..UptoSaid' is the law's where the arguments, and the package variables that the reading takes, are together of bulk at most 1048576: NARROWER than '..Said'. Prove '..Said' where nothing that the law and all that it calls make is longer than what came in: it says more and counts as full. Else prove '..UptoSaid'. A law counts once. -/
mutual
def uptoBulk {H : Type} : DataW H → Nat
  | .lit (.string bytes) => bytes.length + 1
  | .lit _ => 1
  | .nil => 1
  | .ptr d => uptoBulk d + 1
  | .slice elems spare => uptoBulkAll elems + uptoBulkAll spare + 1
  | .agg parts => uptoBulkAll parts + 1
  | .iface _ d => uptoBulk d + 1
  | .map entries => uptoBulkEntries entries + 1
  | .held _ => 1
def uptoBulkAll {H : Type} : List (DataW H) → Nat
  | [] => 0
  | d :: r => uptoBulk d + uptoBulkAll r
def uptoBulkEntries {H : Type} : List (Lit × DataW H) → Nat
  | [] => 0
  | x :: r => uptoBulkEntry x + uptoBulkEntries r
def uptoBulkEntry {H : Type} : Lit × DataW H → Nat
  | (.string bytes, d) => bytes.length + uptoBulk d + 1
  | (_, d) => uptoBulk d + 1
 end
def uptoSmall : (H : Type) → List (DataW H) → Bool := fun _ ds => decide (uptoBulkAll ds ≤ 1048576)
def OpenSpec.upto (s : _root_.Go.ChangeSpec) : _root_.Go.OpenSpec := { _root_.Go.OpenSpec.ofChange s with cond := some uptoSmall }

/-- 'timekeep.ImapOrders', WHERE WHAT IT READS IS OF BULK AT MOST 1048576: true; the input reads as it did. -/
def imapOrdersUptoRow : OpenClaim := { program := "ytjlnokjaabcldae", sum := "1e8d37dc55242be1bd8d3752c5e29e266d6e829f61a00687e96d072450d3d1b7", func := "timeweft/timekeep.ImapOrders", spec := "imapOrders", unfollowed := true, recurses := true, apart := false, narrowed := true }
def ImapOrdersUptoSaid : Prop := imapOrdersUptoRow.holds Try.pinned (OpenSpec.upto imapOrdersSpec)

/-- 'timekeep.PlainWays', WHERE WHAT IT READS IS OF BULK AT MOST 1048576: true; the input reads as it did. -/
def plainWaysUptoRow : OpenClaim := { program := "ytjlnokjaabcldae", sum := "1e8d37dc55242be1bd8d3752c5e29e266d6e829f61a00687e96d072450d3d1b7", func := "timeweft/timekeep.PlainWays", spec := "plainWays", unfollowed := true, recurses := true, apart := false, narrowed := true }
def PlainWaysUptoSaid : Prop := plainWaysUptoRow.holds Try.pinned (OpenSpec.upto plainWaysSpec)

/-- 'timekeep.WarpCovers', WHERE WHAT IT READS IS OF BULK AT MOST 1048576: true; the input reads as it did. -/
def warpCoversUptoRow : OpenClaim := { program := "ytjlnokjaabcldae", sum := "1e8d37dc55242be1bd8d3752c5e29e266d6e829f61a00687e96d072450d3d1b7", func := "timeweft/timekeep.WarpCovers", spec := "warpCovers", unfollowed := true, recurses := true, apart := false, narrowed := true }
def WarpCoversUptoSaid : Prop := warpCoversUptoRow.holds Try.pinned (OpenSpec.upto warpCoversSpec)

end Rows
end Go.Proofs.Ytjlnokjaabcldae
