/-
  What Cut and Keep of the program's maps answer.
-/
import Derived.Test.YtanbbkoleekmjagPMrg2
namespace Go.Proofs.Ytanbbkoleekmjag
open Go.RowKit

/-- what Cut (bb false) and Keep (bb true) come to -/
def OnlyIs (m : List (Int × Int × Int)) (l : List (Int × Int)) (bb : Bool) (n : Int) (r : List (Int × Int × Int)) : Prop :=
  (¬ mchk m = 0 ∧ n = mchk m ∧ r = []) ∨ (mchk m = 0 ∧ ¬ chk l = 0 ∧ n = chk l ∧ r = []) ∨ (mchk m = 0 ∧ chk l = 0 ∧ MapIs (turnsOf m ++ flat l) (onlyF m l bb) n r)
theorem onlyIs_unique {m : List (Int × Int × Int)} {l : List (Int × Int)} {bb : Bool} {n n' : Int} {r r' : List (Int × Int × Int)} (h : OnlyIs m l bb n r) (h' : OnlyIs m l bb n' r') : n = n' ∧ r = r' := by
  rcases h with ⟨h0, h1, h2⟩ | ⟨h0, h0', h1, h2⟩ | ⟨h0, h0', h1⟩
  · rcases h' with ⟨g0, g1, g2⟩ | ⟨g0, g0', g1, g2⟩ | ⟨g0, g0', g1⟩
    · exact ⟨h1.trans g1.symm, h2.trans g2.symm⟩
    · exact absurd g0 h0
    · exact absurd g0 h0
  · rcases h' with ⟨g0, g1, g2⟩ | ⟨g0, g0', g1, g2⟩ | ⟨g0, g0', g1⟩
    · exact absurd h0 g0
    · exact ⟨h1.trans g1.symm, h2.trans g2.symm⟩
    · exact absurd g0' h0'
  · rcases h' with ⟨g0, g1, g2⟩ | ⟨g0, g0', g1, g2⟩ | ⟨g0, g0', g1⟩
    · exact absurd h0 g0
    · exact absurd h0' g0'
    · exact mapIs_unique h1 g1
theorem chk_bad {l : List (Int × Int)} (h : ¬ chk l = 0) : ∃ n, chk l = n ∧ (n = 2 ∨ n = 5) := by
  rcases chk_cases l with e | e | ⟨e, _⟩
  · exact ⟨2, e, .inl rfl⟩
  · exact ⟨5, e, .inr rfl⟩
  · exact absurd e h
theorem chk_good {l : List (Int × Int)} (h : chk l = 0) : l.length ≤ 200 ∧ Canon l ∧ ∀ x ∈ flat l, nearB x := by
  rcases chk_cases l with e | e | ⟨_, h1, h2, h3⟩
  · omega
  · omega
  · exact ⟨h1, canon_of_form h3, near_flat h2⟩

end Go.Proofs.Ytanbbkoleekmjag
