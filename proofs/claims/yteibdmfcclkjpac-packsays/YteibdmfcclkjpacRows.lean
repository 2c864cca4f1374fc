/-
  No cell of these rows narrows 'for every input' (looked for: loops, veiled, ifaces, maps, wideKeys, modest, calm, conditions, laid).
  DERIVED. THE GIVEN ROWS OF THIS SEAT. 6 by the template 'for every input the law returns true; each argument reads behind the call as it read before'; 0 by the template 'total and deterministic' (their statements: YteibdmfcclkjpacTotals.lean).
  GIVEN WITH THE SEED: the statements are not yours to turn. If you find one false, say at which input.
  Laid BY PROGRAM, IN A SANDBOX (cutbox-rows.mjs): the forced cells as the released guide's own fill.sh prints them over the translation e48b8c89dc441126… (all of the seat's roots in one cut). By AI agents, Wed Nov 11 2026. No macro, syntax, notation, axiom, sorry.
-/
import Derived.Test.YteibdmfcclkjpacChecked
import GoSem.Claim
import GoSem.ClaimJoined
import GoSem.ClaimMapViews
import Derived.JoinedTies
import Derived.KernelRfl
namespace Go.Proofs.Yteibdmfcclkjpac
/- THE CELL 'sum', in the pinned program and in every row, IS THE sha256 OF THE DUMP (.gsa) THAT YteibdmfcclkjpacProg.lean LOADS. Nothing in Lean hashes anything: it is a label: what it is worth is what the hold of that sum in a sandbox is worth. -/
noncomputable def Try.pinned : Pinned := { name := "yteibdmfcclkjpac", sum := "e48b8c89dc44112628966c379c3a64550bf77dc17a0540a28e9977aba52b1684", checked := Try.checked }
namespace Rows
def none {H : Type} : Left H := { results := [], args := [] }

/-- 'timelaw.CheapSays': WHATEVER THE INPUT: true; the input reads as it did. -/
def cheapSaysSpec : ChangeSpec := { name := "cheapSays", fn := fun _ => fun
  | [d1, d2, d3, d4] => { results := [.lit (.bool true)], args := [d1, d2, d3, d4] }
  | _ => none }
def cheapSaysRow : OpenClaim := { program := "yteibdmfcclkjpac", sum := "e48b8c89dc44112628966c379c3a64550bf77dc17a0540a28e9977aba52b1684", func := "timeweft/timelaw.CheapSays", spec := "cheapSays", unfollowed := true, recurses := true, plainKeys := false, apart := false }
def CheapSaysSaid : Prop := cheapSaysRow.holds Try.pinned (OpenSpec.ofChange cheapSaysSpec)

/-- ITS FALSE NEIGHBOUR: 'it returns false'. Refute it at one input. -/
def cheapSaysWrong : ChangeSpec := { name := "cheapSays", fn := fun _ => fun
  | [d1, d2, d3, d4] => { results := [.lit (.bool false)], args := [d1, d2, d3, d4] }
  | _ => none }
def CheapSaysWrongFalsely : Prop := cheapSaysRow.holds Try.pinned (OpenSpec.ofChange cheapSaysWrong)

/-- 'timelaw.EarlyWays': WHATEVER THE INPUT: true; the input reads as it did. -/
def earlyWaysSpec : ChangeSpec := { name := "earlyWays", fn := fun _ => fun
  | [d1, d2, d3, d4] => { results := [.lit (.bool true)], args := [d1, d2, d3, d4] }
  | _ => none }
def earlyWaysRow : OpenClaim := { program := "yteibdmfcclkjpac", sum := "e48b8c89dc44112628966c379c3a64550bf77dc17a0540a28e9977aba52b1684", func := "timeweft/timelaw.EarlyWays", spec := "earlyWays", unfollowed := true, recurses := true, plainKeys := false, apart := false }
def EarlyWaysSaid : Prop := earlyWaysRow.holds Try.pinned (OpenSpec.ofChange earlyWaysSpec)

/-- ITS FALSE NEIGHBOUR: 'it returns false'. Refute it at one input. -/
def earlyWaysWrong : ChangeSpec := { name := "earlyWays", fn := fun _ => fun
  | [d1, d2, d3, d4] => { results := [.lit (.bool false)], args := [d1, d2, d3, d4] }
  | _ => none }
def EarlyWaysWrongFalsely : Prop := earlyWaysRow.holds Try.pinned (OpenSpec.ofChange earlyWaysWrong)

/-- 'timelaw.CheapWays': WHATEVER THE INPUT: true; the input reads as it did. -/
def cheapWaysSpec : ChangeSpec := { name := "cheapWays", fn := fun _ => fun
  | [d1, d2, d3, d4] => { results := [.lit (.bool true)], args := [d1, d2, d3, d4] }
  | _ => none }
def cheapWaysRow : OpenClaim := { program := "yteibdmfcclkjpac", sum := "e48b8c89dc44112628966c379c3a64550bf77dc17a0540a28e9977aba52b1684", func := "timeweft/timelaw.CheapWays", spec := "cheapWays", unfollowed := true, recurses := true, plainKeys := false, apart := false }
def CheapWaysSaid : Prop := cheapWaysRow.holds Try.pinned (OpenSpec.ofChange cheapWaysSpec)

/-- ITS FALSE NEIGHBOUR: 'it returns false'. Refute it at one input. -/
def cheapWaysWrong : ChangeSpec := { name := "cheapWays", fn := fun _ => fun
  | [d1, d2, d3, d4] => { results := [.lit (.bool false)], args := [d1, d2, d3, d4] }
  | _ => none }
def CheapWaysWrongFalsely : Prop := cheapWaysRow.holds Try.pinned (OpenSpec.ofChange cheapWaysWrong)

/-- 'timelaw.ProfileSays': WHATEVER THE INPUT: true; the input reads as it did. -/
def profileSaysSpec : ChangeSpec := { name := "profileSays", fn := fun _ => fun
  | [d1, d2, d3, d4, d5] => { results := [.lit (.bool true)], args := [d1, d2, d3, d4, d5] }
  | _ => none }
def profileSaysRow : OpenClaim := { program := "yteibdmfcclkjpac", sum := "e48b8c89dc44112628966c379c3a64550bf77dc17a0540a28e9977aba52b1684", func := "timeweft/timelaw.ProfileSays", spec := "profileSays", unfollowed := true, recurses := true, plainKeys := false, apart := false }
def ProfileSaysSaid : Prop := profileSaysRow.holds Try.pinned (OpenSpec.ofChange profileSaysSpec)

/-- ITS FALSE NEIGHBOUR: 'it returns false'. Refute it at one input. -/
def profileSaysWrong : ChangeSpec := { name := "profileSays", fn := fun _ => fun
  | [d1, d2, d3, d4, d5] => { results := [.lit (.bool false)], args := [d1, d2, d3, d4, d5] }
  | _ => none }
def ProfileSaysWrongFalsely : Prop := profileSaysRow.holds Try.pinned (OpenSpec.ofChange profileSaysWrong)

/-- 'timelaw.TurnSays': WHATEVER THE INPUT: true; the input reads as it did. -/
def turnSaysSpec : ChangeSpec := { name := "turnSays", fn := fun _ => fun
  | [d1, d2] => { results := [.lit (.bool true)], args := [d1, d2] }
  | _ => none }
def turnSaysRow : OpenClaim := { program := "yteibdmfcclkjpac", sum := "e48b8c89dc44112628966c379c3a64550bf77dc17a0540a28e9977aba52b1684", func := "timeweft/timelaw.TurnSays", spec := "turnSays", unfollowed := true, recurses := true, plainKeys := false, apart := false }
def TurnSaysSaid : Prop := turnSaysRow.holds Try.pinned (OpenSpec.ofChange turnSaysSpec)

/-- ITS FALSE NEIGHBOUR: 'it returns false'. Refute it at one input. -/
def turnSaysWrong : ChangeSpec := { name := "turnSays", fn := fun _ => fun
  | [d1, d2] => { results := [.lit (.bool false)], args := [d1, d2] }
  | _ => none }
def TurnSaysWrongFalsely : Prop := turnSaysRow.holds Try.pinned (OpenSpec.ofChange turnSaysWrong)

/-- 'timelaw.PackSays': WHATEVER THE INPUT: true; the input reads as it did. -/
def packSaysSpec : ChangeSpec := { name := "packSays", fn := fun _ => fun
  | [d1, d2] => { results := [.lit (.bool true)], args := [d1, d2] }
  | _ => none }
def packSaysRow : OpenClaim := { program := "yteibdmfcclkjpac", sum := "e48b8c89dc44112628966c379c3a64550bf77dc17a0540a28e9977aba52b1684", func := "timeweft/timelaw.PackSays", spec := "packSays", plainKeys := false, apart := false }
def PackSaysSaid : Prop := packSaysRow.holds Try.pinned (OpenSpec.ofChange packSaysSpec)

/-- ITS FALSE NEIGHBOUR: 'it returns false'. Refute it at one input. -/
def packSaysWrong : ChangeSpec := { name := "packSays", fn := fun _ => fun
  | [d1, d2] => { results := [.lit (.bool false)], args := [d1, d2] }
  | _ => none }
def PackSaysWrongFalsely : Prop := packSaysRow.holds Try.pinned (OpenSpec.ofChange packSaysWrong)

/- THE SECOND FORM. 'bulk': how many values and letters a reading holds, each counted each time it is reached (what is shared counts as often as it is met; a slice's spare places count too). A statement '..UptoSaid' is the law's where the arguments, and the package variables that the reading takes, are together of bulk at most 1048576: NARROWER than '..Said'. Prove '..Said' where nothing that the law and all that it calls make is longer than what came in: it says more and counts as full. Else prove '..UptoSaid'. A law counts once. -/
mutual
def uptoBulk {H : Type} : DataW H → Nat
  | .lit (.string bytes) => bytes.length + 1
  | .lit _ => 1
  | .nil => 1
  | .ptr d => uptoBulk d + 1
  | .slice elems spare => uptoBulkAll elems + uptoBulkAll spare + 1
  | .agg parts => uptoBulkAll parts + 1
  | .iface _ d => uptoBulk d + 1
  | .map entries => uptoBulkEntries entries + 1
  | .held _ => 1
def uptoBulkAll {H : Type} : List (DataW H) → Nat
  | [] => 0
  | d :: r => uptoBulk d + uptoBulkAll r
def uptoBulkEntries {H : Type} : List (Lit × DataW H) → Nat
  | [] => 0
  | x :: r => uptoBulkEntry x + uptoBulkEntries r
def uptoBulkEntry {H : Type} : Lit × DataW H → Nat
  | (.string bytes, d) => bytes.length + uptoBulk d + 1
  | (_, d) => uptoBulk d + 1
 end
def uptoSmall : (H : Type) → List (DataW H) → Bool := fun _ ds => decide (uptoBulkAll ds ≤ 1048576)
def OpenSpec.upto (s : _root_.Go.ChangeSpec) : _root_.Go.OpenSpec := { _root_.Go.OpenSpec.ofChange s with cond := some uptoSmall }

/-- 'timelaw.CheapSays', WHERE WHAT IT READS IS OF BULK AT MOST 1048576: true; the input reads as it did. -/
def cheapSaysUptoRow : OpenClaim := { program := "yteibdmfcclkjpac", sum := "e48b8c89dc44112628966c379c3a64550bf77dc17a0540a28e9977aba52b1684", func := "timeweft/timelaw.CheapSays", spec := "cheapSays", unfollowed := true, recurses := true, plainKeys := false, apart := false, narrowed := true }
def CheapSaysUptoSaid : Prop := cheapSaysUptoRow.holds Try.pinned (OpenSpec.upto cheapSaysSpec)

/-- 'timelaw.EarlyWays', WHERE WHAT IT READS IS OF BULK AT MOST 1048576: true; the input reads as it did. -/
def earlyWaysUptoRow : OpenClaim := { program := "yteibdmfcclkjpac", sum := "e48b8c89dc44112628966c379c3a64550bf77dc17a0540a28e9977aba52b1684", func := "timeweft/timelaw.EarlyWays", spec := "earlyWays", unfollowed := true, recurses := true, plainKeys := false, apart := false, narrowed := true }
def EarlyWaysUptoSaid : Prop := earlyWaysUptoRow.holds Try.pinned (OpenSpec.upto earlyWaysSpec)

/-- 'timelaw.CheapWays', WHERE WHAT IT READS IS OF BULK AT MOST 1048576: true; the input reads as it did. -/
def cheapWaysUptoRow : OpenClaim := { program := "yteibdmfcclkjpac", sum := "e48b8c89dc44112628966c379c3a64550bf77dc17a0540a28e9977aba52b1684", func := "timeweft/timelaw.CheapWays", spec := "cheapWays", unfollowed := true, recurses := true, plainKeys := false, apart := false, narrowed := true }
def CheapWaysUptoSaid : Prop := cheapWaysUptoRow.holds Try.pinned (OpenSpec.upto cheapWaysSpec)

/-- 'timelaw.ProfileSays', WHERE WHAT IT READS IS OF BULK AT MOST 1048576: true; the input reads as it did. -/
def profileSaysUptoRow : OpenClaim := { program := "yteibdmfcclkjpac", sum := "e48b8c89dc44112628966c379c3a64550bf77dc17a0540a28e9977aba52b1684", func := "timeweft/timelaw.ProfileSays", spec := "profileSays", unfollowed := true, recurses := true, plainKeys := false, apart := false, narrowed := true }
def ProfileSaysUptoSaid : Prop := profileSaysUptoRow.holds Try.pinned (OpenSpec.upto profileSaysSpec)

/-- 'timelaw.TurnSays', WHERE WHAT IT READS IS OF BULK AT MOST 1048576: true; the input reads as it did. -/
def turnSaysUptoRow : OpenClaim := { program := "yteibdmfcclkjpac", sum := "e48b8c89dc44112628966c379c3a64550bf77dc17a0540a28e9977aba52b1684", func := "timeweft/timelaw.TurnSays", spec := "turnSays", unfollowed := true, recurses := true, plainKeys := false, apart := false, narrowed := true }
def TurnSaysUptoSaid : Prop := turnSaysUptoRow.holds Try.pinned (OpenSpec.upto turnSaysSpec)

/-- 'timelaw.PackSays', WHERE WHAT IT READS IS OF BULK AT MOST 1048576: true; the input reads as it did. -/
def packSaysUptoRow : OpenClaim := { program := "yteibdmfcclkjpac", sum := "e48b8c89dc44112628966c379c3a64550bf77dc17a0540a28e9977aba52b1684", func := "timeweft/timelaw.PackSays", spec := "packSays", plainKeys := false, apart := false, narrowed := true }
def PackSaysUptoSaid : Prop := packSaysUptoRow.holds Try.pinned (OpenSpec.upto packSaysSpec)

end Rows
end Go.Proofs.Yteibdmfcclkjpac
