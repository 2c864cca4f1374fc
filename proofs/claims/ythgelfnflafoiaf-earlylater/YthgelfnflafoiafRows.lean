/-
  No cell of these rows narrows 'for every input' (looked for: loops, veiled, ifaces, maps, wideKeys, modest, calm, conditions, laid).
  DERIVED. THE GIVEN ROWS OF THIS SEAT. 6 by the template 'for every input the law returns true; each argument reads behind the call as it read before'; 0 by the template 'total and deterministic' (their statements: YthgelfnflafoiafTotals.lean).
  GIVEN WITH THE SEED: the statements are not yours to turn. If you find one false, say at which input.
  Laid BY PROGRAM, IN A SANDBOX (cutbox-rows.mjs): the forced cells as the released guide's own fill.sh prints them over the translation 578931a5a3168121… (all of the seat's roots in one cut). By AI agents, Wed Nov 11 2026. No macro, syntax, notation, axiom, sorry.
-/
import Derived.Test.YthgelfnflafoiafChecked
import GoSem.Claim
import GoSem.ClaimJoined
import GoSem.ClaimMapViews
import Derived.JoinedTies
import Derived.KernelRfl
namespace Go.Proofs.Ythgelfnflafoiaf
/- THE CELL 'sum', in the pinned program and in every row, IS THE sha256 OF THE DUMP (.gsa) THAT YthgelfnflafoiafProg.lean LOADS. Nothing in Lean hashes anything: it is a label: what it is worth is what the hold of that sum in a sandbox is worth. -/
noncomputable def Try.pinned : Pinned := { name := "ythgelfnflafoiaf", sum := "578931a5a3168121b44ec4e40c71f92aec1062b727028d597ce4269952a65052", checked := Try.checked }
namespace Rows
def none {H : Type} : Left H := { results := [], args := [] }

/-- 'timekeep.JourneyParts': WHATEVER THE INPUT: true; the input reads as it did. -/
def journeyPartsSpec : ChangeSpec := { name := "journeyParts", fn := fun _ => fun
  | [d1, d2, d3, d4, d5] => { results := [.lit (.bool true)], args := [d1, d2, d3, d4, d5] }
  | _ => none }
def journeyPartsRow : OpenClaim := { program := "ythgelfnflafoiaf", sum := "578931a5a3168121b44ec4e40c71f92aec1062b727028d597ce4269952a65052", func := "timeweft/timekeep.JourneyParts", spec := "journeyParts", plainKeys := false, apart := false }
def JourneyPartsSaid : Prop := journeyPartsRow.holds Try.pinned (OpenSpec.ofChange journeyPartsSpec)

/-- ITS FALSE NEIGHBOUR: 'it returns false'. Refute it at one input. -/
def journeyPartsWrong : ChangeSpec := { name := "journeyParts", fn := fun _ => fun
  | [d1, d2, d3, d4, d5] => { results := [.lit (.bool false)], args := [d1, d2, d3, d4, d5] }
  | _ => none }
def JourneyPartsWrongFalsely : Prop := journeyPartsRow.holds Try.pinned (OpenSpec.ofChange journeyPartsWrong)

/-- 'timekeep.JourneyLeaves': WHATEVER THE INPUT: true; the input reads as it did. -/
def journeyLeavesSpec : ChangeSpec := { name := "journeyLeaves", fn := fun _ => fun
  | [d1, d2, d3, d4] => { results := [.lit (.bool true)], args := [d1, d2, d3, d4] }
  | _ => none }
def journeyLeavesRow : OpenClaim := { program := "ythgelfnflafoiaf", sum := "578931a5a3168121b44ec4e40c71f92aec1062b727028d597ce4269952a65052", func := "timeweft/timekeep.JourneyLeaves", spec := "journeyLeaves", plainKeys := false, apart := false }
def JourneyLeavesSaid : Prop := journeyLeavesRow.holds Try.pinned (OpenSpec.ofChange journeyLeavesSpec)

/-- ITS FALSE NEIGHBOUR: 'it returns false'. Refute it at one input. -/
def journeyLeavesWrong : ChangeSpec := { name := "journeyLeaves", fn := fun _ => fun
  | [d1, d2, d3, d4] => { results := [.lit (.bool false)], args := [d1, d2, d3, d4] }
  | _ => none }
def JourneyLeavesWrongFalsely : Prop := journeyLeavesRow.holds Try.pinned (OpenSpec.ofChange journeyLeavesWrong)

/-- 'timekeep.EarlyLater': WHATEVER THE INPUT: true; the input reads as it did. -/
def earlyLaterSpec : ChangeSpec := { name := "earlyLater", fn := fun _ => fun
  | [d1, d2, d3, d4] => { results := [.lit (.bool true)], args := [d1, d2, d3, d4] }
  | _ => none }
def earlyLaterRow : OpenClaim := { program := "ythgelfnflafoiaf", sum := "578931a5a3168121b44ec4e40c71f92aec1062b727028d597ce4269952a65052", func := "timeweft/timekeep.EarlyLater", spec := "earlyLater", plainKeys := false, apart := false }
def EarlyLaterSaid : Prop := earlyLaterRow.holds Try.pinned (OpenSpec.ofChange earlyLaterSpec)

/-- ITS FALSE NEIGHBOUR: 'it returns false'. Refute it at one input. -/
def earlyLaterWrong : ChangeSpec := { name := "earlyLater", fn := fun _ => fun
  | [d1, d2, d3, d4] => { results := [.lit (.bool false)], args := [d1, d2, d3, d4] }
  | _ => none }
def EarlyLaterWrongFalsely : Prop := earlyLaterRow.holds Try.pinned (OpenSpec.ofChange earlyLaterWrong)

/-- 'timekeep.EarlyBack': WHATEVER THE INPUT: true; the input reads as it did. -/
def earlyBackSpec : ChangeSpec := { name := "earlyBack", fn := fun _ => fun
  | [d1, d2, d3, d4, d5] => { results := [.lit (.bool true)], args := [d1, d2, d3, d4, d5] }
  | _ => none }
def earlyBackRow : OpenClaim := { program := "ythgelfnflafoiaf", sum := "578931a5a3168121b44ec4e40c71f92aec1062b727028d597ce4269952a65052", func := "timeweft/timekeep.EarlyBack", spec := "earlyBack", plainKeys := false, apart := false }
def EarlyBackSaid : Prop := earlyBackRow.holds Try.pinned (OpenSpec.ofChange earlyBackSpec)

/-- ITS FALSE NEIGHBOUR: 'it returns false'. Refute it at one input. -/
def earlyBackWrong : ChangeSpec := { name := "earlyBack", fn := fun _ => fun
  | [d1, d2, d3, d4, d5] => { results := [.lit (.bool false)], args := [d1, d2, d3, d4, d5] }
  | _ => none }
def EarlyBackWrongFalsely : Prop := earlyBackRow.holds Try.pinned (OpenSpec.ofChange earlyBackWrong)

/-- 'timekeep.EarlyVia': WHATEVER THE INPUT: true; the input reads as it did. -/
def earlyViaSpec : ChangeSpec := { name := "earlyVia", fn := fun _ => fun
  | [d1, d2, d3, d4] => { results := [.lit (.bool true)], args := [d1, d2, d3, d4] }
  | _ => none }
def earlyViaRow : OpenClaim := { program := "ythgelfnflafoiaf", sum := "578931a5a3168121b44ec4e40c71f92aec1062b727028d597ce4269952a65052", func := "timeweft/timekeep.EarlyVia", spec := "earlyVia", plainKeys := false, apart := false }
def EarlyViaSaid : Prop := earlyViaRow.holds Try.pinned (OpenSpec.ofChange earlyViaSpec)

/-- ITS FALSE NEIGHBOUR: 'it returns false'. Refute it at one input. -/
def earlyViaWrong : ChangeSpec := { name := "earlyVia", fn := fun _ => fun
  | [d1, d2, d3, d4] => { results := [.lit (.bool false)], args := [d1, d2, d3, d4] }
  | _ => none }
def EarlyViaWrongFalsely : Prop := earlyViaRow.holds Try.pinned (OpenSpec.ofChange earlyViaWrong)

/-- 'timekeep.CheapBounds': WHATEVER THE INPUT: true; the input reads as it did. -/
def cheapBoundsSpec : ChangeSpec := { name := "cheapBounds", fn := fun _ => fun
  | [d1, d2, d3] => { results := [.lit (.bool true)], args := [d1, d2, d3] }
  | _ => none }
def cheapBoundsRow : OpenClaim := { program := "ythgelfnflafoiaf", sum := "578931a5a3168121b44ec4e40c71f92aec1062b727028d597ce4269952a65052", func := "timeweft/timekeep.CheapBounds", spec := "cheapBounds", unfollowed := true, recurses := true, plainKeys := false, apart := false }
def CheapBoundsSaid : Prop := cheapBoundsRow.holds Try.pinned (OpenSpec.ofChange cheapBoundsSpec)

/-- ITS FALSE NEIGHBOUR: 'it returns false'. Refute it at one input. -/
def cheapBoundsWrong : ChangeSpec := { name := "cheapBounds", fn := fun _ => fun
  | [d1, d2, d3] => { results := [.lit (.bool false)], args := [d1, d2, d3] }
  | _ => none }
def CheapBoundsWrongFalsely : Prop := cheapBoundsRow.holds Try.pinned (OpenSpec.ofChange cheapBoundsWrong)

/- THE SECOND FORM. 'bulk': how many values and letters a reading holds, each counted each time it is reached (what is shared counts as often as it is met; a slice's spare places count too). A statement '..UptoSaid' is the law's where the arguments, and the package variables that the reading takes, are together of bulk at most 1048576: NARROWER than '..Said'. Prove '..Said' where nothing that the law and all that it calls make is longer than what came in: it says more and counts as full. Else prove '..UptoSaid'. A law counts once. -/
mutual
def uptoBulk {H : Type} : DataW H → Nat
  | .lit (.string bytes) => bytes.length + 1
  | .lit _ => 1
  | .nil => 1
  | .ptr d => uptoBulk d + 1
  | .slice elems spare => uptoBulkAll elems + uptoBulkAll spare + 1
  | .agg parts => uptoBulkAll parts + 1
  | .iface _ d => uptoBulk d + 1
  | .map entries => uptoBulkEntries entries + 1
  | .held _ => 1
def uptoBulkAll {H : Type} : List (DataW H) → Nat
  | [] => 0
  | d :: r => uptoBulk d + uptoBulkAll r
def uptoBulkEntries {H : Type} : List (Lit × DataW H) → Nat
  | [] => 0
  | x :: r => uptoBulkEntry x + uptoBulkEntries r
def uptoBulkEntry {H : Type} : Lit × DataW H → Nat
  | (.string bytes, d) => bytes.length + uptoBulk d + 1
  | (_, d) => uptoBulk d + 1
 end
def uptoSmall : (H : Type) → List (DataW H) → Bool := fun _ ds => decide (uptoBulkAll ds ≤ 1048576)
def OpenSpec.upto (s : _root_.Go.ChangeSpec) : _root_.Go.OpenSpec := { _root_.Go.OpenSpec.ofChange s with cond := some uptoSmall }

/-- 'timekeep.JourneyParts', WHERE WHAT IT READS IS OF BULK AT MOST 1048576: true; the input reads as it did. -/
def journeyPartsUptoRow : OpenClaim := { program := "ythgelfnflafoiaf", sum := "578931a5a3168121b44ec4e40c71f92aec1062b727028d597ce4269952a65052", func := "timeweft/timekeep.JourneyParts", spec := "journeyParts", plainKeys := false, apart := false, narrowed := true }
def JourneyPartsUptoSaid : Prop := journeyPartsUptoRow.holds Try.pinned (OpenSpec.upto journeyPartsSpec)

/-- 'timekeep.JourneyLeaves', WHERE WHAT IT READS IS OF BULK AT MOST 1048576: true; the input reads as it did. -/
def journeyLeavesUptoRow : OpenClaim := { program := "ythgelfnflafoiaf", sum := "578931a5a3168121b44ec4e40c71f92aec1062b727028d597ce4269952a65052", func := "timeweft/timekeep.JourneyLeaves", spec := "journeyLeaves", plainKeys := false, apart := false, narrowed := true }
def JourneyLeavesUptoSaid : Prop := journeyLeavesUptoRow.holds Try.pinned (OpenSpec.upto journeyLeavesSpec)

/-- 'timekeep.EarlyLater', WHERE WHAT IT READS IS OF BULK AT MOST 1048576: true; the input reads as it did. -/
def earlyLaterUptoRow : OpenClaim := { program := "ythgelfnflafoiaf", sum := "578931a5a3168121b44ec4e40c71f92aec1062b727028d597ce4269952a65052", func := "timeweft/timekeep.EarlyLater", spec := "earlyLater", plainKeys := false, apart := false, narrowed := true }
def EarlyLaterUptoSaid : Prop := earlyLaterUptoRow.holds Try.pinned (OpenSpec.upto earlyLaterSpec)

/-- 'timekeep.EarlyBack', WHERE WHAT IT READS IS OF BULK AT MOST 1048576: true; the input reads as it did. -/
def earlyBackUptoRow : OpenClaim := { program := "ythgelfnflafoiaf", sum := "578931a5a3168121b44ec4e40c71f92aec1062b727028d597ce4269952a65052", func := "timeweft/timekeep.EarlyBack", spec := "earlyBack", plainKeys := false, apart := false, narrowed := true }
def EarlyBackUptoSaid : Prop := earlyBackUptoRow.holds Try.pinned (OpenSpec.upto earlyBackSpec)

/-- 'timekeep.EarlyVia', WHERE WHAT IT READS IS OF BULK AT MOST 1048576: true; the input reads as it did. -/
def earlyViaUptoRow : OpenClaim := { program := "ythgelfnflafoiaf", sum := "578931a5a3168121b44ec4e40c71f92aec1062b727028d597ce4269952a65052", func := "timeweft/timekeep.EarlyVia", spec := "earlyVia", plainKeys := false, apart := false, narrowed := true }
def EarlyViaUptoSaid : Prop := earlyViaUptoRow.holds Try.pinned (OpenSpec.upto earlyViaSpec)

/-- 'timekeep.CheapBounds', WHERE WHAT IT READS IS OF BULK AT MOST 1048576: true; the input reads as it did. -/
def cheapBoundsUptoRow : OpenClaim := { program := "ythgelfnflafoiaf", sum := "578931a5a3168121b44ec4e40c71f92aec1062b727028d597ce4269952a65052", func := "timeweft/timekeep.CheapBounds", spec := "cheapBounds", unfollowed := true, recurses := true, plainKeys := false, apart := false, narrowed := true }
def CheapBoundsUptoSaid : Prop := cheapBoundsUptoRow.holds Try.pinned (OpenSpec.upto cheapBoundsSpec)

end Rows
end Go.Proofs.Ythgelfnflafoiaf
