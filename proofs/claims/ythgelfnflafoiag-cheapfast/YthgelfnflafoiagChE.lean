/-
  What leastPrices answers; Costs and Hops.
-/
import Derived.Test.YthgelfnflafoiagChD
namespace Go.Proofs.Ythgelfnflafoiag
open Go.RowKit

/-- what Costs and Hops tell -/
def LeastE (g : Gr) (pr : Ri → Int) (v t : Int) (L : List Int) : Prop := (placeE g v t ≠ 0 ∧ L = []) ∨ (placeE g v t = 0 ∧ LeastIs g pr v t L)
def prCost : Ri → Int := fun r => r.2.2.2.2.2
def prOne : Ri → Int := fun _ => 1
def prZero : Ri → Int := fun _ => 0
theorem prCost_ok {g : Gr} (R : Right g) : PrOk g prCost := fun _ hr => (mem_rides R hr).c0
theorem prOne_ok (g : Gr) : PrOk g prOne := fun _ _ => by unfold prOne; omega
theorem prZero_ok (g : Gr) : PrOk g prZero := fun _ _ => by unfold prZero; omega

end Go.Proofs.Ythgelfnflafoiag
