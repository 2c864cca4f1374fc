/-
  What Departures of the reference answers.
-/
import Derived.Test.YtanbbkoleekmjacRArrF
namespace Go.Proofs.Ytanbbkoleekmjac
open Go.RowKit

/-- the latest of the first k times at which one may be at v, to be at q by d -/
noncomputable def depG (g : Gr) (q d v : Nat) : Nat → Int
  | 0 => -1
  | k + 1 => if aliveB (k : Int) g.lives (v : Int) = true ∧ (arrF g v k).getD q 0 ≤ (d : Int) then (k : Int) else depG g q d v k
noncomputable def depV (g : Gr) (q d v : Nat) : Int := if aliveB (d : Int) g.lives (q : Int) = true then depG g q d v (d + 1) else -1
noncomputable def depL (g : Gr) (q d k : Nat) : List Int := (List.range k).map fun v => depV g q d v
theorem depL_succ (g : Gr) (q d k : Nat) : (depL g q d (k + 1)).map (Value.int .i64) = (depL g q d k).map (Value.int .i64) ++ [.int .i64 (depV g q d k)] := by simp [depL, List.range_succ]

end Go.Proofs.Ytanbbkoleekmjac
