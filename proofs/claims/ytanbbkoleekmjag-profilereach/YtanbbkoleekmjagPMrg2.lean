/-
  What Merge of the program's maps answers, whole.
-/
import Derived.Test.YtanbbkoleekmjagPMrg
namespace Go.Proofs.Ytanbbkoleekmjag
open Go.RowKit

/-- what Merge comes to -/
def MergeIs (a b : List (Int × Int × Int)) (how n : Int) (r : List (Int × Int × Int)) : Prop :=
  (¬ mchk a = 0 ∧ n = mchk a ∧ r = []) ∨ (mchk a = 0 ∧ ¬ mchk b = 0 ∧ n = mchk b ∧ r = []) ∨ (mchk a = 0 ∧ mchk b = 0 ∧ ¬ (how = 1 ∨ how = 2 ∨ how = 3) ∧ n = 1 ∧ r = []) ∨
  (mchk a = 0 ∧ mchk b = 0 ∧ (how = 1 ∨ how = 2 ∨ how = 3) ∧ MapIs (turnsOf a ++ turnsOf b) (mergeF a b how) n r)

theorem mergeIs_unique {a b : List (Int × Int × Int)} {how n n' : Int} {r r' : List (Int × Int × Int)} (h : MergeIs a b how n r) (h' : MergeIs a b how n' r') : n = n' ∧ r = r' := by
  rcases h with ⟨h0, h1, h2⟩ | ⟨h0, h0', h1, h2⟩ | ⟨h0, h0', h0'', h1, h2⟩ | ⟨h0, h0', h0'', h1⟩
  · rcases h' with ⟨g0, g1, g2⟩ | ⟨g0, g0', g1, g2⟩ | ⟨g0, g0', g0'', g1, g2⟩ | ⟨g0, g0', g0'', g1⟩
    · exact ⟨h1.trans g1.symm, h2.trans g2.symm⟩
    · exact absurd g0 h0
    · exact absurd g0 h0
    · exact absurd g0 h0
  · rcases h' with ⟨g0, g1, g2⟩ | ⟨g0, g0', g1, g2⟩ | ⟨g0, g0', g0'', g1, g2⟩ | ⟨g0, g0', g0'', g1⟩
    · exact absurd h0 g0
    · exact ⟨h1.trans g1.symm, h2.trans g2.symm⟩
    · exact absurd g0' h0'
    · exact absurd g0' h0'
  · rcases h' with ⟨g0, g1, g2⟩ | ⟨g0, g0', g1, g2⟩ | ⟨g0, g0', g0'', g1, g2⟩ | ⟨g0, g0', g0'', g1⟩
    · exact absurd h0 g0
    · exact absurd h0' g0'
    · exact ⟨h1.trans g1.symm, h2.trans g2.symm⟩
    · exact absurd g0'' h0''
  · rcases h' with ⟨g0, g1, g2⟩ | ⟨g0, g0', g1, g2⟩ | ⟨g0, g0', g0'', g1, g2⟩ | ⟨g0, g0', g0'', g1⟩
    · exact absurd h0 g0
    · exact absurd h0' g0'
    · exact absurd h0'' g0''
    · exact mapIs_unique h1 g1

theorem hide3 {p : Prop} (h : p) : Hid p := h
theorem nil3 (w W : World) : W.ownsRow w.heap.size 39 3 (.slice none 0 0) ([] : List (Int × Int × Int)).length (enc3 []) := World.ownsRow_nil _ _ _ _

end Go.Proofs.Ytanbbkoleekmjag
