/-
  No cell of these rows narrows 'for every input' (looked for: loops, veiled, ifaces, maps, wideKeys, modest, calm, conditions, laid).
  DERIVED. THE GIVEN ROWS OF THIS SEAT. 4 by the template 'for every input the law returns true; each argument reads behind the call as it read before'; 0 by the template 'total and deterministic' (their statements: YtjlnokjaabcldaaTotals.lean).
  GIVEN WITH THE SEED: the statements are not yours to turn. If you find one false, say at which input.
  Laid BY PROGRAM, IN A SANDBOX (cutbox-rows.mjs): the forced cells as the released guide's own fill.sh prints them over the translation 0b92469425d6dad0… (all of the seat's roots in one cut). By AI agents, Wed Nov 11 2026. No macro, syntax, notation, axiom, sorry.
-/
import Derived.Test.YtjlnokjaabcldaaChecked
import GoSem.Claim
import GoSem.ClaimJoined
import GoSem.ClaimMapViews
import Derived.JoinedTies
import Derived.KernelRfl
namespace Go.Proofs.Ytjlnokjaabcldaa
/- THE CELL 'sum', in the pinned program and in every row, IS THE sha256 OF THE DUMP (.gsa) THAT YtjlnokjaabcldaaProg.lean LOADS. Nothing in Lean hashes anything: it is a label: what it is worth is what the hold of that sum in a sandbox is worth. -/
noncomputable def Try.pinned : Pinned := { name := "ytjlnokjaabcldaa", sum := "0b92469425d6dad0917cda6eb05595891af43f5acf93cfa6a5f07d2013ab78a9", checked := Try.checked }
namespace Rows
def none {H : Type} : Left H := { results := [], args := [] }

/-- 'timelaw.IvlSays': WHATEVER THE INPUT: true; the input reads as it did. -/
def ivlSaysSpec : ChangeSpec := { name := "ivlSays", fn := fun _ => fun
  | [d1, d2] => { results := [.lit (.bool true)], args := [d1, d2] }
  | _ => none }
def ivlSaysRow : OpenClaim := { program := "ytjlnokjaabcldaa", sum := "0b92469425d6dad0917cda6eb05595891af43f5acf93cfa6a5f07d2013ab78a9", func := "timeweft/timelaw.IvlSays", spec := "ivlSays", unfollowed := true, recurses := true, apart := false }
def IvlSaysSaid : Prop := ivlSaysRow.holds Try.pinned (OpenSpec.ofChange ivlSaysSpec)

/-- ITS FALSE NEIGHBOUR: 'it returns false'. Refute it at one input. -/
def ivlSaysWrong : ChangeSpec := { name := "ivlSays", fn := fun _ => fun
  | [d1, d2] => { results := [.lit (.bool false)], args := [d1, d2] }
  | _ => none }
def IvlSaysWrongFalsely : Prop := ivlSaysRow.holds Try.pinned (OpenSpec.ofChange ivlSaysWrong)

/-- 'timelaw.IvlSets': WHATEVER THE INPUT: true; the input reads as it did. -/
def ivlSetsSpec : ChangeSpec := { name := "ivlSets", fn := fun _ => fun
  | [d1, d2] => { results := [.lit (.bool true)], args := [d1, d2] }
  | _ => none }
def ivlSetsRow : OpenClaim := { program := "ytjlnokjaabcldaa", sum := "0b92469425d6dad0917cda6eb05595891af43f5acf93cfa6a5f07d2013ab78a9", func := "timeweft/timelaw.IvlSets", spec := "ivlSets", unfollowed := true, recurses := true, apart := false }
def IvlSetsSaid : Prop := ivlSetsRow.holds Try.pinned (OpenSpec.ofChange ivlSetsSpec)

/-- ITS FALSE NEIGHBOUR: 'it returns false'. Refute it at one input. -/
def ivlSetsWrong : ChangeSpec := { name := "ivlSets", fn := fun _ => fun
  | [d1, d2] => { results := [.lit (.bool false)], args := [d1, d2] }
  | _ => none }
def IvlSetsWrongFalsely : Prop := ivlSetsRow.holds Try.pinned (OpenSpec.ofChange ivlSetsWrong)

/-- 'timelaw.ImapSays': WHATEVER THE INPUT: true; the input reads as it did. -/
def imapSaysSpec : ChangeSpec := { name := "imapSays", fn := fun _ => fun
  | [d1, d2, d3, d4] => { results := [.lit (.bool true)], args := [d1, d2, d3, d4] }
  | _ => none }
def imapSaysRow : OpenClaim := { program := "ytjlnokjaabcldaa", sum := "0b92469425d6dad0917cda6eb05595891af43f5acf93cfa6a5f07d2013ab78a9", func := "timeweft/timelaw.ImapSays", spec := "imapSays", unfollowed := true, recurses := true, apart := false }
def ImapSaysSaid : Prop := imapSaysRow.holds Try.pinned (OpenSpec.ofChange imapSaysSpec)

/-- ITS FALSE NEIGHBOUR: 'it returns false'. Refute it at one input. -/
def imapSaysWrong : ChangeSpec := { name := "imapSays", fn := fun _ => fun
  | [d1, d2, d3, d4] => { results := [.lit (.bool false)], args := [d1, d2, d3, d4] }
  | _ => none }
def ImapSaysWrongFalsely : Prop := imapSaysRow.holds Try.pinned (OpenSpec.ofChange imapSaysWrong)

/-- 'timelaw.ImapMerges': WHATEVER THE INPUT: true; the input reads as it did. -/
def imapMergesSpec : ChangeSpec := { name := "imapMerges", fn := fun _ => fun
  | [d1, d2, d3] => { results := [.lit (.bool true)], args := [d1, d2, d3] }
  | _ => none }
def imapMergesRow : OpenClaim := { program := "ytjlnokjaabcldaa", sum := "0b92469425d6dad0917cda6eb05595891af43f5acf93cfa6a5f07d2013ab78a9", func := "timeweft/timelaw.ImapMerges", spec := "imapMerges", unfollowed := true, recurses := true, apart := false }
def ImapMergesSaid : Prop := imapMergesRow.holds Try.pinned (OpenSpec.ofChange imapMergesSpec)

/-- ITS FALSE NEIGHBOUR: 'it returns false'. Refute it at one input. -/
def imapMergesWrong : ChangeSpec := { name := "imapMerges", fn := fun _ => fun
  | [d1, d2, d3] => { results := [.lit (.bool false)], args := [d1, d2, d3] }
  | _ => none }
def ImapMergesWrongFalsely : Prop := imapMergesRow.holds Try.pinned (OpenSpec.ofChange imapMergesWrong)

/- THE SECOND FORM. 'bulk': how many values and letters a reading holds, each counted each time it is reached (what is shared counts as often as it is met; a slice's spare places count too). A statement '..UptoSaid' is the law's where the arguments, and the package variables that the reading takes, are together of bulk at most 1048576: NARROWER than '..Said'. Prove '..Said' where nothing that the law and all that it calls make is longer than what came in: it says more and counts as full. Else prove '..UptoSaid'. A law counts once. -/
mutual
def uptoBulk {H : Type} : DataW H → Nat
  | .lit (.string bytes) => bytes.length + 1
  | .lit _ => 1
  | .nil => 1
  | .ptr d => uptoBulk d + 1
  | .slice elems spare => uptoBulkAll elems + uptoBulkAll spare + 1
  | .agg parts => uptoBulkAll parts + 1
  | .iface _ d => uptoBulk d + 1
  | .map entries => uptoBulkEntries entries + 1
  | .held _ => 1
def uptoBulkAll {H : Type} : List (DataW H) → Nat
  | [] => 0
  | d :: r => uptoBulk d + uptoBulkAll r
def uptoBulkEntries {H : Type} : List (Lit × DataW H) → Nat
  | [] => 0
  | x :: r => uptoBulkEntry x + uptoBulkEntries r
def uptoBulkEntry {H : Type} : Lit × DataW H → Nat
  | (.string bytes, d) => bytes.length + uptoBulk d + 1
  | (_, d) => uptoBulk d + 1
 end
def uptoSmall : (H : Type) → List (DataW H) → Bool := fun _ ds => decide (uptoBulkAll ds ≤ 1048576)
def OpenSpec.upto (s : _root_.Go.ChangeSpec) : _root_.Go.OpenSpec := { _root_.Go.OpenSpec.ofChange s with cond := some uptoSmall }

/-- 'timelaw.IvlSays', WHERE WHAT IT READS IS OF BULK AT MOST 1048576: true; the input reads as it did. -/
def ivlSaysUptoRow : OpenClaim := { program := "ytjlnokjaabcldaa", sum := "0b92469425d6dad0917cda6eb05595891af43f5acf93cfa6a5f07d2013ab78a9", func := "timeweft/timelaw.IvlSays", spec := "ivlSays", unfollowed := true, recurses := true, apart := false, narrowed := true }
def IvlSaysUptoSaid : Prop := ivlSaysUptoRow.holds Try.pinned (OpenSpec.upto ivlSaysSpec)

/-- 'timelaw.IvlSets', WHERE WHAT IT READS IS OF BULK AT MOST 1048576: true; the input reads as it did. -/
def ivlSetsUptoRow : OpenClaim := { program := "ytjlnokjaabcldaa", sum := "0b92469425d6dad0917cda6eb05595891af43f5acf93cfa6a5f07d2013ab78a9", func := "timeweft/timelaw.IvlSets", spec := "ivlSets", unfollowed := true, recurses := true, apart := false, narrowed := true }
def IvlSetsUptoSaid : Prop := ivlSetsUptoRow.holds Try.pinned (OpenSpec.upto ivlSetsSpec)

/-- 'timelaw.ImapSays', WHERE WHAT IT READS IS OF BULK AT MOST 1048576: true; the input reads as it did. -/
def imapSaysUptoRow : OpenClaim := { program := "ytjlnokjaabcldaa", sum := "0b92469425d6dad0917cda6eb05595891af43f5acf93cfa6a5f07d2013ab78a9", func := "timeweft/timelaw.ImapSays", spec := "imapSays", unfollowed := true, recurses := true, apart := false, narrowed := true }
def ImapSaysUptoSaid : Prop := imapSaysUptoRow.holds Try.pinned (OpenSpec.upto imapSaysSpec)

/-- 'timelaw.ImapMerges', WHERE WHAT IT READS IS OF BULK AT MOST 1048576: true; the input reads as it did. -/
def imapMergesUptoRow : OpenClaim := { program := "ytjlnokjaabcldaa", sum := "0b92469425d6dad0917cda6eb05595891af43f5acf93cfa6a5f07d2013ab78a9", func := "timeweft/timelaw.ImapMerges", spec := "imapMerges", unfollowed := true, recurses := true, apart := false, narrowed := true }
def ImapMergesUptoSaid : Prop := imapMergesUptoRow.holds Try.pinned (OpenSpec.upto imapMergesSpec)

end Rows
end Go.Proofs.Ytjlnokjaabcldaa
