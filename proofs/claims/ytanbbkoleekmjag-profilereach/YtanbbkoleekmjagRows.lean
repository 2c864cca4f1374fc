/-
  No cell of these rows narrows 'for every input' (looked for: loops, veiled, ifaces, maps, wideKeys, modest, calm, conditions, laid).
  DERIVED. THE GIVEN ROWS OF THIS SEAT. 6 by the template 'for every input the law returns true; each argument reads behind the call as it read before'; 0 by the template 'total and deterministic' (their statements: YtanbbkoleekmjagTotals.lean).
  GIVEN WITH THE SEED: the statements are not yours to turn. If you find one false, say at which input.
  Laid BY PROGRAM, IN A SANDBOX (cutbox-rows.mjs): the forced cells as the released guide's own fill.sh prints them over the translation ab4433d7f40743c8… (all of the seat's roots in one cut). By AI agents, Wed Nov 11 2026. No macro, syntax, notation, axiom, sorry.
-/
import Derived.Test.YtanbbkoleekmjagChecked
import GoSem.Claim
import GoSem.ClaimJoined
import GoSem.ClaimMapViews
import Derived.JoinedTies
import Derived.KernelRfl
namespace Go.Proofs.Ytanbbkoleekmjag
/- THE CELL 'sum', in the pinned program and in every row, IS THE sha256 OF THE DUMP (.gsa) THAT YtanbbkoleekmjagProg.lean LOADS. Nothing in Lean hashes anything: it is a label: what it is worth is what the hold of that sum in a sandbox is worth. -/
noncomputable def Try.pinned : Pinned := { name := "ytanbbkoleekmjag", sum := "ab4433d7f40743c8fa640c22a55bfe8281294fb5d6847aa7e6c9e839b6fd15b3", checked := Try.checked }
namespace Rows
def none {H : Type} : Left H := { results := [], args := [] }

/-- 'timekeep.CheapFast': WHATEVER THE INPUT: true; the input reads as it did. -/
def cheapFastSpec : ChangeSpec := { name := "cheapFast", fn := fun _ => fun
  | [d1, d2, d3, d4] => { results := [.lit (.bool true)], args := [d1, d2, d3, d4] }
  | _ => none }
def cheapFastRow : OpenClaim := { program := "ytanbbkoleekmjag", sum := "ab4433d7f40743c8fa640c22a55bfe8281294fb5d6847aa7e6c9e839b6fd15b3", func := "timeweft/timekeep.CheapFast", spec := "cheapFast", unfollowed := true, recurses := true, plainKeys := false, apart := false }
def CheapFastSaid : Prop := cheapFastRow.holds Try.pinned (OpenSpec.ofChange cheapFastSpec)

/-- ITS FALSE NEIGHBOUR: 'it returns false'. Refute it at one input. -/
def cheapFastWrong : ChangeSpec := { name := "cheapFast", fn := fun _ => fun
  | [d1, d2, d3, d4] => { results := [.lit (.bool false)], args := [d1, d2, d3, d4] }
  | _ => none }
def CheapFastWrongFalsely : Prop := cheapFastRow.holds Try.pinned (OpenSpec.ofChange cheapFastWrong)

/-- 'timekeep.ProfileRises': WHATEVER THE INPUT: true; the input reads as it did. -/
def profileRisesSpec : ChangeSpec := { name := "profileRises", fn := fun _ => fun
  | [d1, d2, d3, d4] => { results := [.lit (.bool true)], args := [d1, d2, d3, d4] }
  | _ => none }
def profileRisesRow : OpenClaim := { program := "ytanbbkoleekmjag", sum := "ab4433d7f40743c8fa640c22a55bfe8281294fb5d6847aa7e6c9e839b6fd15b3", func := "timeweft/timekeep.ProfileRises", spec := "profileRises", unfollowed := true, recurses := true, plainKeys := false, apart := false }
def ProfileRisesSaid : Prop := profileRisesRow.holds Try.pinned (OpenSpec.ofChange profileRisesSpec)

/-- ITS FALSE NEIGHBOUR: 'it returns false'. Refute it at one input. -/
def profileRisesWrong : ChangeSpec := { name := "profileRises", fn := fun _ => fun
  | [d1, d2, d3, d4] => { results := [.lit (.bool false)], args := [d1, d2, d3, d4] }
  | _ => none }
def ProfileRisesWrongFalsely : Prop := profileRisesRow.holds Try.pinned (OpenSpec.ofChange profileRisesWrong)

/-- 'timekeep.ProfileReach': WHATEVER THE INPUT: true; the input reads as it did. -/
def profileReachSpec : ChangeSpec := { name := "profileReach", fn := fun _ => fun
  | [d1, d2, d3, d4] => { results := [.lit (.bool true)], args := [d1, d2, d3, d4] }
  | _ => none }
def profileReachRow : OpenClaim := { program := "ytanbbkoleekmjag", sum := "ab4433d7f40743c8fa640c22a55bfe8281294fb5d6847aa7e6c9e839b6fd15b3", func := "timeweft/timekeep.ProfileReach", spec := "profileReach", plainKeys := false, apart := false }
def ProfileReachSaid : Prop := profileReachRow.holds Try.pinned (OpenSpec.ofChange profileReachSpec)

/-- ITS FALSE NEIGHBOUR: 'it returns false'. Refute it at one input. -/
def profileReachWrong : ChangeSpec := { name := "profileReach", fn := fun _ => fun
  | [d1, d2, d3, d4] => { results := [.lit (.bool false)], args := [d1, d2, d3, d4] }
  | _ => none }
def ProfileReachWrongFalsely : Prop := profileReachRow.holds Try.pinned (OpenSpec.ofChange profileReachWrong)

/-- 'timekeep.TurnTwice': WHATEVER THE INPUT: true; the input reads as it did. -/
def turnTwiceSpec : ChangeSpec := { name := "turnTwice", fn := fun _ => fun
  | [d1, d2, d3] => { results := [.lit (.bool true)], args := [d1, d2, d3] }
  | _ => none }
def turnTwiceRow : OpenClaim := { program := "ytanbbkoleekmjag", sum := "ab4433d7f40743c8fa640c22a55bfe8281294fb5d6847aa7e6c9e839b6fd15b3", func := "timeweft/timekeep.TurnTwice", spec := "turnTwice", unfollowed := true, recurses := true, plainKeys := false, apart := false }
def TurnTwiceSaid : Prop := turnTwiceRow.holds Try.pinned (OpenSpec.ofChange turnTwiceSpec)

/-- ITS FALSE NEIGHBOUR: 'it returns false'. Refute it at one input. -/
def turnTwiceWrong : ChangeSpec := { name := "turnTwice", fn := fun _ => fun
  | [d1, d2, d3] => { results := [.lit (.bool false)], args := [d1, d2, d3] }
  | _ => none }
def TurnTwiceWrongFalsely : Prop := turnTwiceRow.holds Try.pinned (OpenSpec.ofChange turnTwiceWrong)

/-- 'timekeep.TurnBack': WHATEVER THE INPUT: true; the input reads as it did. -/
def turnBackSpec : ChangeSpec := { name := "turnBack", fn := fun _ => fun
  | [d1, d2, d3] => { results := [.lit (.bool true)], args := [d1, d2, d3] }
  | _ => none }
def turnBackRow : OpenClaim := { program := "ytanbbkoleekmjag", sum := "ab4433d7f40743c8fa640c22a55bfe8281294fb5d6847aa7e6c9e839b6fd15b3", func := "timeweft/timekeep.TurnBack", spec := "turnBack", unfollowed := true, recurses := true, plainKeys := false, apart := false }
def TurnBackSaid : Prop := turnBackRow.holds Try.pinned (OpenSpec.ofChange turnBackSpec)

/-- ITS FALSE NEIGHBOUR: 'it returns false'. Refute it at one input. -/
def turnBackWrong : ChangeSpec := { name := "turnBack", fn := fun _ => fun
  | [d1, d2, d3] => { results := [.lit (.bool false)], args := [d1, d2, d3] }
  | _ => none }
def TurnBackWrongFalsely : Prop := turnBackRow.holds Try.pinned (OpenSpec.ofChange turnBackWrong)

/-- 'timekeep.TurnParts': WHATEVER THE INPUT: true; the input reads as it did. -/
def turnPartsSpec : ChangeSpec := { name := "turnParts", fn := fun _ => fun
  | [d1, d2, d3, d4] => { results := [.lit (.bool true)], args := [d1, d2, d3, d4] }
  | _ => none }
def turnPartsRow : OpenClaim := { program := "ytanbbkoleekmjag", sum := "ab4433d7f40743c8fa640c22a55bfe8281294fb5d6847aa7e6c9e839b6fd15b3", func := "timeweft/timekeep.TurnParts", spec := "turnParts", unfollowed := true, recurses := true, plainKeys := false, apart := false }
def TurnPartsSaid : Prop := turnPartsRow.holds Try.pinned (OpenSpec.ofChange turnPartsSpec)

/-- ITS FALSE NEIGHBOUR: 'it returns false'. Refute it at one input. -/
def turnPartsWrong : ChangeSpec := { name := "turnParts", fn := fun _ => fun
  | [d1, d2, d3, d4] => { results := [.lit (.bool false)], args := [d1, d2, d3, d4] }
  | _ => none }
def TurnPartsWrongFalsely : Prop := turnPartsRow.holds Try.pinned (OpenSpec.ofChange turnPartsWrong)

/- THE SECOND FORM. 'bulk': how many values and letters a reading holds, each counted each time it is reached (what is shared counts as often as it is met; a slice's spare places count too). A statement '..UptoSaid' is the law's where the arguments, and the package variables that the reading takes, are together of bulk at most 1048576: NARROWER than '..Said'. Prove '..Said' where nothing that the law and all that it calls make is longer than what came in: it says more and counts as full. Else prove '..UptoSaid'. A law counts once. -/
mutual
def uptoBulk {H : Type} : DataW H → Nat
  | .lit (.string bytes) => bytes.length + 1
  | .lit _ => 1
  | .nil => 1
  | .ptr d => uptoBulk d + 1
  | .slice elems spare => uptoBulkAll elems + uptoBulkAll spare + 1
  | .agg parts => uptoBulkAll parts + 1
  | .iface _ d => uptoBulk d + 1
  | .map entries => uptoBulkEntries entries + 1
  | .held _ => 1
def uptoBulkAll {H : Type} : List (DataW H) → Nat
  | [] => 0
  | d :: r => uptoBulk d + uptoBulkAll r
def uptoBulkEntries {H : Type} : List (Lit × DataW H) → Nat
  | [] => 0
  | x :: r => uptoBulkEntry x + uptoBulkEntries r
def uptoBulkEntry {H : Type} : Lit × DataW H → Nat
  | (.string bytes, d) => bytes.length + uptoBulk d + 1
  | (_, d) => uptoBulk d + 1
 end
def uptoSmall : (H : Type) → List (DataW H) → Bool := fun _ ds => decide (uptoBulkAll ds ≤ 1048576)
def OpenSpec.upto (s : _root_.Go.ChangeSpec) : _root_.Go.OpenSpec := { _root_.Go.OpenSpec.ofChange s with cond := some uptoSmall }

/-- 'timekeep.CheapFast', WHERE WHAT IT READS IS OF BULK AT MOST 1048576: true; the input reads as it did. -/
def cheapFastUptoRow : OpenClaim := { program := "ytanbbkoleekmjag", sum := "ab4433d7f40743c8fa640c22a55bfe8281294fb5d6847aa7e6c9e839b6fd15b3", func := "timeweft/timekeep.CheapFast", spec := "cheapFast", unfollowed := true, recurses := true, plainKeys := false, apart := false, narrowed := true }
def CheapFastUptoSaid : Prop := cheapFastUptoRow.holds Try.pinned (OpenSpec.upto cheapFastSpec)

/-- 'timekeep.ProfileRises', WHERE WHAT IT READS IS OF BULK AT MOST 1048576: true; the input reads as it did. -/
def profileRisesUptoRow : OpenClaim := { program := "ytanbbkoleekmjag", sum := "ab4433d7f40743c8fa640c22a55bfe8281294fb5d6847aa7e6c9e839b6fd15b3", func := "timeweft/timekeep.ProfileRises", spec := "profileRises", unfollowed := true, recurses := true, plainKeys := false, apart := false, narrowed := true }
def ProfileRisesUptoSaid : Prop := profileRisesUptoRow.holds Try.pinned (OpenSpec.upto profileRisesSpec)

/-- 'timekeep.ProfileReach', WHERE WHAT IT READS IS OF BULK AT MOST 1048576: true; the input reads as it did. -/
def profileReachUptoRow : OpenClaim := { program := "ytanbbkoleekmjag", sum := "ab4433d7f40743c8fa640c22a55bfe8281294fb5d6847aa7e6c9e839b6fd15b3", func := "timeweft/timekeep.ProfileReach", spec := "profileReach", plainKeys := false, apart := false, narrowed := true }
def ProfileReachUptoSaid : Prop := profileReachUptoRow.holds Try.pinned (OpenSpec.upto profileReachSpec)

/-- 'timekeep.TurnTwice', WHERE WHAT IT READS IS OF BULK AT MOST 1048576: true; the input reads as it did. -/
def turnTwiceUptoRow : OpenClaim := { program := "ytanbbkoleekmjag", sum := "ab4433d7f40743c8fa640c22a55bfe8281294fb5d6847aa7e6c9e839b6fd15b3", func := "timeweft/timekeep.TurnTwice", spec := "turnTwice", unfollowed := true, recurses := true, plainKeys := false, apart := false, narrowed := true }
def TurnTwiceUptoSaid : Prop := turnTwiceUptoRow.holds Try.pinned (OpenSpec.upto turnTwiceSpec)

/-- 'timekeep.TurnBack', WHERE WHAT IT READS IS OF BULK AT MOST 1048576: true; the input reads as it did. -/
def turnBackUptoRow : OpenClaim := { program := "ytanbbkoleekmjag", sum := "ab4433d7f40743c8fa640c22a55bfe8281294fb5d6847aa7e6c9e839b6fd15b3", func := "timeweft/timekeep.TurnBack", spec := "turnBack", unfollowed := true, recurses := true, plainKeys := false, apart := false, narrowed := true }
def TurnBackUptoSaid : Prop := turnBackUptoRow.holds Try.pinned (OpenSpec.upto turnBackSpec)

/-- 'timekeep.TurnParts', WHERE WHAT IT READS IS OF BULK AT MOST 1048576: true; the input reads as it did. -/
def turnPartsUptoRow : OpenClaim := { program := "ytanbbkoleekmjag", sum := "ab4433d7f40743c8fa640c22a55bfe8281294fb5d6847aa7e6c9e839b6fd15b3", func := "timeweft/timekeep.TurnParts", spec := "turnParts", unfollowed := true, recurses := true, plainKeys := false, apart := false, narrowed := true }
def TurnPartsUptoSaid : Prop := turnPartsUptoRow.holds Try.pinned (OpenSpec.upto turnPartsSpec)

end Rows
end Go.Proofs.Ytanbbkoleekmjag
