/-
  No cell of these rows narrows 'for every input' (looked for: loops, veiled, ifaces, maps, wideKeys, modest, calm, conditions, laid).
  DERIVED. THE GIVEN ROWS OF THIS SEAT. 4 by the template 'for every input the law returns true; each argument reads behind the call as it read before'; 0 by the template 'total and deterministic' (their statements: YthgelfnflafoiabTotals.lean).
  GIVEN WITH THE SEED: the statements are not yours to turn. If you find one false, say at which input.
  Laid BY PROGRAM, IN A SANDBOX (cutbox-rows.mjs): the forced cells as the released guide's own fill.sh prints them over the translation 260f973acb92f859… (all of the seat's roots in one cut). By AI agents, Wed Nov 11 2026. No macro, syntax, notation, axiom, sorry.
-/
import Derived.Test.YthgelfnflafoiabChecked
import GoSem.Claim
import GoSem.ClaimJoined
import GoSem.ClaimMapViews
import Derived.JoinedTies
import Derived.KernelRfl
namespace Go.Proofs.Ythgelfnflafoiab
/- THE CELL 'sum', in the pinned program and in every row, IS THE sha256 OF THE DUMP (.gsa) THAT YthgelfnflafoiabProg.lean LOADS. Nothing in Lean hashes anything: it is a label: what it is worth is what the hold of that sum in a sandbox is worth. -/
noncomputable def Try.pinned : Pinned := { name := "ythgelfnflafoiab", sum := "260f973acb92f8595875c2e8810ef03c2c8f47f0e700a3c7cc05b4434172b9a2", checked := Try.checked }
namespace Rows
def none {H : Type} : Left H := { results := [], args := [] }

/-- 'timelaw.PlainSays': WHATEVER THE INPUT: true; the input reads as it did. -/
def plainSaysSpec : ChangeSpec := { name := "plainSays", fn := fun _ => fun
  | [d1, d2] => { results := [.lit (.bool true)], args := [d1, d2] }
  | _ => none }
def plainSaysRow : OpenClaim := { program := "ythgelfnflafoiab", sum := "260f973acb92f8595875c2e8810ef03c2c8f47f0e700a3c7cc05b4434172b9a2", func := "timeweft/timelaw.PlainSays", spec := "plainSays", unfollowed := true, recurses := true, apart := false }
def PlainSaysSaid : Prop := plainSaysRow.holds Try.pinned (OpenSpec.ofChange plainSaysSpec)

/-- ITS FALSE NEIGHBOUR: 'it returns false'. Refute it at one input. -/
def plainSaysWrong : ChangeSpec := { name := "plainSays", fn := fun _ => fun
  | [d1, d2] => { results := [.lit (.bool false)], args := [d1, d2] }
  | _ => none }
def PlainSaysWrongFalsely : Prop := plainSaysRow.holds Try.pinned (OpenSpec.ofChange plainSaysWrong)

/-- 'timelaw.JourneyGoes': WHATEVER THE INPUT: true; the input reads as it did. -/
def journeyGoesSpec : ChangeSpec := { name := "journeyGoes", fn := fun _ => fun
  | [d1, d2, d3, d4] => { results := [.lit (.bool true)], args := [d1, d2, d3, d4] }
  | _ => none }
def journeyGoesRow : OpenClaim := { program := "ythgelfnflafoiab", sum := "260f973acb92f8595875c2e8810ef03c2c8f47f0e700a3c7cc05b4434172b9a2", func := "timeweft/timelaw.JourneyGoes", spec := "journeyGoes", apart := false }
def JourneyGoesSaid : Prop := journeyGoesRow.holds Try.pinned (OpenSpec.ofChange journeyGoesSpec)

/-- ITS FALSE NEIGHBOUR: 'it returns false'. Refute it at one input. -/
def journeyGoesWrong : ChangeSpec := { name := "journeyGoes", fn := fun _ => fun
  | [d1, d2, d3, d4] => { results := [.lit (.bool false)], args := [d1, d2, d3, d4] }
  | _ => none }
def JourneyGoesWrongFalsely : Prop := journeyGoesRow.holds Try.pinned (OpenSpec.ofChange journeyGoesWrong)

/-- 'timelaw.JourneyOuts': WHATEVER THE INPUT: true; the input reads as it did. -/
def journeyOutsSpec : ChangeSpec := { name := "journeyOuts", fn := fun _ => fun
  | [d1, d2, d3] => { results := [.lit (.bool true)], args := [d1, d2, d3] }
  | _ => none }
def journeyOutsRow : OpenClaim := { program := "ythgelfnflafoiab", sum := "260f973acb92f8595875c2e8810ef03c2c8f47f0e700a3c7cc05b4434172b9a2", func := "timeweft/timelaw.JourneyOuts", spec := "journeyOuts", apart := false }
def JourneyOutsSaid : Prop := journeyOutsRow.holds Try.pinned (OpenSpec.ofChange journeyOutsSpec)

/-- ITS FALSE NEIGHBOUR: 'it returns false'. Refute it at one input. -/
def journeyOutsWrong : ChangeSpec := { name := "journeyOuts", fn := fun _ => fun
  | [d1, d2, d3] => { results := [.lit (.bool false)], args := [d1, d2, d3] }
  | _ => none }
def JourneyOutsWrongFalsely : Prop := journeyOutsRow.holds Try.pinned (OpenSpec.ofChange journeyOutsWrong)

/-- 'timelaw.EarlySays': WHATEVER THE INPUT: true; the input reads as it did. -/
def earlySaysSpec : ChangeSpec := { name := "earlySays", fn := fun _ => fun
  | [d1, d2, d3] => { results := [.lit (.bool true)], args := [d1, d2, d3] }
  | _ => none }
def earlySaysRow : OpenClaim := { program := "ythgelfnflafoiab", sum := "260f973acb92f8595875c2e8810ef03c2c8f47f0e700a3c7cc05b4434172b9a2", func := "timeweft/timelaw.EarlySays", spec := "earlySays", unfollowed := true, recurses := true, apart := false }
def EarlySaysSaid : Prop := earlySaysRow.holds Try.pinned (OpenSpec.ofChange earlySaysSpec)

/-- ITS FALSE NEIGHBOUR: 'it returns false'. Refute it at one input. -/
def earlySaysWrong : ChangeSpec := { name := "earlySays", fn := fun _ => fun
  | [d1, d2, d3] => { results := [.lit (.bool false)], args := [d1, d2, d3] }
  | _ => none }
def EarlySaysWrongFalsely : Prop := earlySaysRow.holds Try.pinned (OpenSpec.ofChange earlySaysWrong)

/- THE SECOND FORM. 'bulk': how many values and letters a reading holds, each counted each time it is reached (what is shared counts as often as it is met; a slice's spare places count too). A statement '..UptoSaid' is the law's where the arguments, and the package variables that the reading takes, are together of bulk at most 1048576: NARROWER than '..Said'. Prove '..Said' where nothing that the law and all that it calls make is longer than what came in: it says more and counts as full. Else prove '..UptoSaid'. A law counts once. -/
mutual
def uptoBulk {H : Type} : DataW H → Nat
  | .lit (.string bytes) => bytes.length + 1
  | .lit _ => 1
  | .nil => 1
  | .ptr d => uptoBulk d + 1
  | .slice elems spare => uptoBulkAll elems + uptoBulkAll spare + 1
  | .agg parts => uptoBulkAll parts + 1
  | .iface _ d => uptoBulk d + 1
  | .map entries => uptoBulkEntries entries + 1
  | .held _ => 1
def uptoBulkAll {H : Type} : List (DataW H) → Nat
  | [] => 0
  | d :: r => uptoBulk d + uptoBulkAll r
def uptoBulkEntries {H : Type} : List (Lit × DataW H) → Nat
  | [] => 0
  | x :: r => uptoBulkEntry x + uptoBulkEntries r
def uptoBulkEntry {H : Type} : Lit × DataW H → Nat
  | (.string bytes, d) => bytes.length + uptoBulk d + 1
  | (_, d) => uptoBulk d + 1
 end
def uptoSmall : (H : Type) → List (DataW H) → Bool := fun _ ds => decide (uptoBulkAll ds ≤ 1048576)
def OpenSpec.upto (s : _root_.Go.ChangeSpec) : _root_.Go.OpenSpec := { _root_.Go.OpenSpec.ofChange s with cond := some uptoSmall }

/-- 'timelaw.PlainSays', WHERE WHAT IT READS IS OF BULK AT MOST 1048576: true; the input reads as it did. -/
def plainSaysUptoRow : OpenClaim := { program := "ythgelfnflafoiab", sum := "260f973acb92f8595875c2e8810ef03c2c8f47f0e700a3c7cc05b4434172b9a2", func := "timeweft/timelaw.PlainSays", spec := "plainSays", unfollowed := true, recurses := true, apart := false, narrowed := true }
def PlainSaysUptoSaid : Prop := plainSaysUptoRow.holds Try.pinned (OpenSpec.upto plainSaysSpec)

/-- 'timelaw.JourneyGoes', WHERE WHAT IT READS IS OF BULK AT MOST 1048576: true; the input reads as it did. -/
def journeyGoesUptoRow : OpenClaim := { program := "ythgelfnflafoiab", sum := "260f973acb92f8595875c2e8810ef03c2c8f47f0e700a3c7cc05b4434172b9a2", func := "timeweft/timelaw.JourneyGoes", spec := "journeyGoes", apart := false, narrowed := true }
def JourneyGoesUptoSaid : Prop := journeyGoesUptoRow.holds Try.pinned (OpenSpec.upto journeyGoesSpec)

/-- 'timelaw.JourneyOuts', WHERE WHAT IT READS IS OF BULK AT MOST 1048576: true; the input reads as it did. -/
def journeyOutsUptoRow : OpenClaim := { program := "ythgelfnflafoiab", sum := "260f973acb92f8595875c2e8810ef03c2c8f47f0e700a3c7cc05b4434172b9a2", func := "timeweft/timelaw.JourneyOuts", spec := "journeyOuts", apart := false, narrowed := true }
def JourneyOutsUptoSaid : Prop := journeyOutsUptoRow.holds Try.pinned (OpenSpec.upto journeyOutsSpec)

/-- 'timelaw.EarlySays', WHERE WHAT IT READS IS OF BULK AT MOST 1048576: true; the input reads as it did. -/
def earlySaysUptoRow : OpenClaim := { program := "ythgelfnflafoiab", sum := "260f973acb92f8595875c2e8810ef03c2c8f47f0e700a3c7cc05b4434172b9a2", func := "timeweft/timelaw.EarlySays", spec := "earlySays", unfollowed := true, recurses := true, apart := false, narrowed := true }
def EarlySaysUptoSaid : Prop := earlySaysUptoRow.holds Try.pinned (OpenSpec.upto earlySaysSpec)

end Rows
end Go.Proofs.Ythgelfnflafoiab
