/-
  No cell of these rows narrows 'for every input' (looked for: loops, veiled, ifaces, maps, wideKeys, modest, calm, conditions, laid).
  DERIVED. THE GIVEN ROWS OF THIS SEAT. 5 by the template 'for every input the law returns true; each argument reads behind the call as it read before'; 0 by the template 'total and deterministic' (their statements: YteibdmfcclkjpadTotals.lean).
  GIVEN WITH THE SEED: the statements are not yours to turn. If you find one false, say at which input.
  Laid BY PROGRAM, IN A SANDBOX (cutbox-rows.mjs): the forced cells as the released guide's own fill.sh prints them over the translation 97073ee7eb43d763… (all of the seat's roots in one cut). By AI agents, Wed Nov 11 2026. No macro, syntax, notation, axiom, sorry.
-/
import Derived.Test.YteibdmfcclkjpadChecked
import GoSem.Claim
import GoSem.ClaimJoined
import GoSem.ClaimMapViews
import Derived.JoinedTies
import Derived.KernelRfl
namespace Go.Proofs.Yteibdmfcclkjpad
/- THE CELL 'sum', in the pinned program and in every row, IS THE sha256 OF THE DUMP (.gsa) THAT YteibdmfcclkjpadProg.lean LOADS. Nothing in Lean hashes anything: it is a label: what it is worth is what the hold of that sum in a sandbox is worth. -/
noncomputable def Try.pinned : Pinned := { name := "yteibdmfcclkjpad", sum := "97073ee7eb43d763e6939d71535b002ed84dcb217f58a0bea0c1b8519c515ddc", checked := Try.checked }
namespace Rows
def none {H : Type} : Left H := { results := [], args := [] }

/-- 'timelaw.PackReads': WHATEVER THE INPUT: true; the input reads as it did. -/
def packReadsSpec : ChangeSpec := { name := "packReads", fn := fun _ => fun
  | [d] => { results := [.lit (.bool true)], args := [d] }
  | _ => none }
def packReadsRow : OpenClaim := { program := "yteibdmfcclkjpad", sum := "97073ee7eb43d763e6939d71535b002ed84dcb217f58a0bea0c1b8519c515ddc", func := "timeweft/timelaw.PackReads", spec := "packReads", unfollowed := true, recurses := true, apart := false }
def PackReadsSaid : Prop := packReadsRow.holds Try.pinned (OpenSpec.ofChange packReadsSpec)

/-- ITS FALSE NEIGHBOUR: 'it returns false'. Refute it at one input. -/
def packReadsWrong : ChangeSpec := { name := "packReads", fn := fun _ => fun
  | [d] => { results := [.lit (.bool false)], args := [d] }
  | _ => none }
def PackReadsWrongFalsely : Prop := packReadsRow.holds Try.pinned (OpenSpec.ofChange packReadsWrong)

/-- 'timekeep.IvlLaws': WHATEVER THE INPUT: true; the input reads as it did. -/
def ivlLawsSpec : ChangeSpec := { name := "ivlLaws", fn := fun _ => fun
  | [d1, d2, d3] => { results := [.lit (.bool true)], args := [d1, d2, d3] }
  | _ => none }
def ivlLawsRow : OpenClaim := { program := "yteibdmfcclkjpad", sum := "97073ee7eb43d763e6939d71535b002ed84dcb217f58a0bea0c1b8519c515ddc", func := "timeweft/timekeep.IvlLaws", spec := "ivlLaws", unfollowed := true, recurses := true, apart := false }
def IvlLawsSaid : Prop := ivlLawsRow.holds Try.pinned (OpenSpec.ofChange ivlLawsSpec)

/-- ITS FALSE NEIGHBOUR: 'it returns false'. Refute it at one input. -/
def ivlLawsWrong : ChangeSpec := { name := "ivlLaws", fn := fun _ => fun
  | [d1, d2, d3] => { results := [.lit (.bool false)], args := [d1, d2, d3] }
  | _ => none }
def IvlLawsWrongFalsely : Prop := ivlLawsRow.holds Try.pinned (OpenSpec.ofChange ivlLawsWrong)

/-- 'timekeep.IvlHas': WHATEVER THE INPUT: true; the input reads as it did. -/
def ivlHasSpec : ChangeSpec := { name := "ivlHas", fn := fun _ => fun
  | [d1, d2, d3] => { results := [.lit (.bool true)], args := [d1, d2, d3] }
  | _ => none }
def ivlHasRow : OpenClaim := { program := "yteibdmfcclkjpad", sum := "97073ee7eb43d763e6939d71535b002ed84dcb217f58a0bea0c1b8519c515ddc", func := "timeweft/timekeep.IvlHas", spec := "ivlHas", unfollowed := true, recurses := true, apart := false }
def IvlHasSaid : Prop := ivlHasRow.holds Try.pinned (OpenSpec.ofChange ivlHasSpec)

/-- ITS FALSE NEIGHBOUR: 'it returns false'. Refute it at one input. -/
def ivlHasWrong : ChangeSpec := { name := "ivlHas", fn := fun _ => fun
  | [d1, d2, d3] => { results := [.lit (.bool false)], args := [d1, d2, d3] }
  | _ => none }
def IvlHasWrongFalsely : Prop := ivlHasRow.holds Try.pinned (OpenSpec.ofChange ivlHasWrong)

/-- 'timekeep.ImapPuts': WHATEVER THE INPUT: true; the input reads as it did. -/
def imapPutsSpec : ChangeSpec := { name := "imapPuts", fn := fun _ => fun
  | [d1, d2, d3] => { results := [.lit (.bool true)], args := [d1, d2, d3] }
  | _ => none }
def imapPutsRow : OpenClaim := { program := "yteibdmfcclkjpad", sum := "97073ee7eb43d763e6939d71535b002ed84dcb217f58a0bea0c1b8519c515ddc", func := "timeweft/timekeep.ImapPuts", spec := "imapPuts", unfollowed := true, recurses := true, apart := false }
def ImapPutsSaid : Prop := imapPutsRow.holds Try.pinned (OpenSpec.ofChange imapPutsSpec)

/-- ITS FALSE NEIGHBOUR: 'it returns false'. Refute it at one input. -/
def imapPutsWrong : ChangeSpec := { name := "imapPuts", fn := fun _ => fun
  | [d1, d2, d3] => { results := [.lit (.bool false)], args := [d1, d2, d3] }
  | _ => none }
def ImapPutsWrongFalsely : Prop := imapPutsRow.holds Try.pinned (OpenSpec.ofChange imapPutsWrong)

/-- 'timekeep.ImapParts': WHATEVER THE INPUT: true; the input reads as it did. -/
def imapPartsSpec : ChangeSpec := { name := "imapParts", fn := fun _ => fun
  | [d1, d2, d3] => { results := [.lit (.bool true)], args := [d1, d2, d3] }
  | _ => none }
def imapPartsRow : OpenClaim := { program := "yteibdmfcclkjpad", sum := "97073ee7eb43d763e6939d71535b002ed84dcb217f58a0bea0c1b8519c515ddc", func := "timeweft/timekeep.ImapParts", spec := "imapParts", unfollowed := true, recurses := true, apart := false }
def ImapPartsSaid : Prop := imapPartsRow.holds Try.pinned (OpenSpec.ofChange imapPartsSpec)

/-- ITS FALSE NEIGHBOUR: 'it returns false'. Refute it at one input. -/
def imapPartsWrong : ChangeSpec := { name := "imapParts", fn := fun _ => fun
  | [d1, d2, d3] => { results := [.lit (.bool false)], args := [d1, d2, d3] }
  | _ => none }
def ImapPartsWrongFalsely : Prop := imapPartsRow.holds Try.pinned (OpenSpec.ofChange imapPartsWrong)

/- THE SECOND FORM. 'bulk': how many values and letters a reading holds, each counted each time it is reached (what is shared counts as often as it is met; a slice's spare places count too). A statement '..UptoSaid' is the law's where the arguments, and the package variables that the reading takes, are together of bulk at most 1048576: NARROWER than '..Said'. Prove '..Said' where nothing that the law and all that it calls make is longer than what came in: it says more and counts as full. Else prove '..UptoSaid'. A law counts once. -/
mutual
def uptoBulk {H : Type} : DataW H → Nat
  | .lit (.string bytes) => bytes.length + 1
  | .lit _ => 1
  | .nil => 1
  | .ptr d => uptoBulk d + 1
  | .slice elems spare => uptoBulkAll elems + uptoBulkAll spare + 1
  | .agg parts => uptoBulkAll parts + 1
  | .iface _ d => uptoBulk d + 1
  | .map entries => uptoBulkEntries entries + 1
  | .held _ => 1
def uptoBulkAll {H : Type} : List (DataW H) → Nat
  | [] => 0
  | d :: r => uptoBulk d + uptoBulkAll r
def uptoBulkEntries {H : Type} : List (Lit × DataW H) → Nat
  | [] => 0
  | x :: r => uptoBulkEntry x + uptoBulkEntries r
def uptoBulkEntry {H : Type} : Lit × DataW H → Nat
  | (.string bytes, d) => bytes.length + uptoBulk d + 1
  | (_, d) => uptoBulk d + 1
 end
def uptoSmall : (H : Type) → List (DataW H) → Bool := fun _ ds => decide (uptoBulkAll ds ≤ 1048576)
def OpenSpec.upto (s : _root_.Go.ChangeSpec) : _root_.Go.OpenSpec := { _root_.Go.OpenSpec.ofChange s with cond := some uptoSmall }

/-- 'timelaw.PackReads', WHERE WHAT IT READS IS OF BULK AT MOST 1048576: true; the input reads as it did. -/
def packReadsUptoRow : OpenClaim := { program := "yteibdmfcclkjpad", sum := "97073ee7eb43d763e6939d71535b002ed84dcb217f58a0bea0c1b8519c515ddc", func := "timeweft/timelaw.PackReads", spec := "packReads", unfollowed := true, recurses := true, apart := false, narrowed := true }
def PackReadsUptoSaid : Prop := packReadsUptoRow.holds Try.pinned (OpenSpec.upto packReadsSpec)

/-- 'timekeep.IvlLaws', WHERE WHAT IT READS IS OF BULK AT MOST 1048576: true; the input reads as it did. -/
def ivlLawsUptoRow : OpenClaim := { program := "yteibdmfcclkjpad", sum := "97073ee7eb43d763e6939d71535b002ed84dcb217f58a0bea0c1b8519c515ddc", func := "timeweft/timekeep.IvlLaws", spec := "ivlLaws", unfollowed := true, recurses := true, apart := false, narrowed := true }
def IvlLawsUptoSaid : Prop := ivlLawsUptoRow.holds Try.pinned (OpenSpec.upto ivlLawsSpec)

/-- 'timekeep.IvlHas', WHERE WHAT IT READS IS OF BULK AT MOST 1048576: true; the input reads as it did. -/
def ivlHasUptoRow : OpenClaim := { program := "yteibdmfcclkjpad", sum := "97073ee7eb43d763e6939d71535b002ed84dcb217f58a0bea0c1b8519c515ddc", func := "timeweft/timekeep.IvlHas", spec := "ivlHas", unfollowed := true, recurses := true, apart := false, narrowed := true }
def IvlHasUptoSaid : Prop := ivlHasUptoRow.holds Try.pinned (OpenSpec.upto ivlHasSpec)

/-- 'timekeep.ImapPuts', WHERE WHAT IT READS IS OF BULK AT MOST 1048576: true; the input reads as it did. -/
def imapPutsUptoRow : OpenClaim := { program := "yteibdmfcclkjpad", sum := "97073ee7eb43d763e6939d71535b002ed84dcb217f58a0bea0c1b8519c515ddc", func := "timeweft/timekeep.ImapPuts", spec := "imapPuts", unfollowed := true, recurses := true, apart := false, narrowed := true }
def ImapPutsUptoSaid : Prop := imapPutsUptoRow.holds Try.pinned (OpenSpec.upto imapPutsSpec)

/-- 'timekeep.ImapParts', WHERE WHAT IT READS IS OF BULK AT MOST 1048576: true; the input reads as it did. -/
def imapPartsUptoRow : OpenClaim := { program := "yteibdmfcclkjpad", sum := "97073ee7eb43d763e6939d71535b002ed84dcb217f58a0bea0c1b8519c515ddc", func := "timeweft/timekeep.ImapParts", spec := "imapParts", unfollowed := true, recurses := true, apart := false, narrowed := true }
def ImapPartsUptoSaid : Prop := imapPartsUptoRow.holds Try.pinned (OpenSpec.upto imapPartsSpec)

end Rows
end Go.Proofs.Yteibdmfcclkjpad
