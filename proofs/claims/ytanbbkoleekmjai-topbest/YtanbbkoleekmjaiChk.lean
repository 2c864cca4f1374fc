/-
  What checkBounds and Check of the program answer, for every list.
-/
import Derived.Test.YtanbbkoleekmjaiPk1
import Derived.Deep.QuietTactic
import Derived.BigQuiet
namespace Go.Proofs.Ytanbbkoleekmjai
open Go.RowKit

theorem ret_bool {a b : Bool} (h : a = b) : Ending.returned (.bool a) = .returned (.bool b) := by rw [h]
theorem ret_int {k : IntKind} {a b : Int} (h : a = b) : Ending.returned (.int k a) = .returned (.int k b) := by rw [h]

/-- is a number near? -/
def nrB (x : Int) : Bool := decide (-1000000000 ≤ x) && decide (x ≤ 1000000000)
theorem nrB_iff (x : Int) : nrB x = true ↔ nearB x := by unfold nrB nearB; simp only [Bool.and_eq_true, decide_eq_true_eq]
theorem nrB_all_no {l : List Int} {k : Nat} (hk : k < l.length) (h : ¬ nearB l[k]) : l.all nrB = false := by
  rw [← Bool.not_eq_true, List.all_eq_true]
  intro hh
  exact h ((nrB_iff _).1 (hh l[k] (List.getElem_mem hk)))
theorem nrB_take_succ {l : List Int} {k : Nat} (hk : k < l.length) (h0 : (l.take k).all nrB = true) (h : nearB l[k]) : (l.take (k + 1)).all nrB = true := by
  rw [take_succ_get l k hk, List.all_append, h0]
  simp [(nrB_iff _).2 h]

end Go.Proofs.Ytanbbkoleekmjai
