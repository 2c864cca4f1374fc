/-
  What the library's sort answers of a row of numbers of the call's own.
-/
import Derived.Test.YtanbbkoleekmjagPk1
import Derived.Test.YtanbbkoleekmjagShelf
import Derived.Sort.OwnSortedInts
import Derived.Deep.QuietTactic
import Derived.BigQuiet
import Derived.Laws.AppendOwnNone
import Derived.Deep.SlicePairs
namespace Go.Proofs.Ytanbbkoleekmjag
open Go.RowKit

theorem sortInts_any {w : World} {base e g cap : Nat} {A : List Int} (h : w.ownsRow base e 1 (.slice (some ⟨g, 0, none⟩) A.length cap) A.length (A.map (Value.int .i64))) (hlen : A.length < 4611686018427387904) :
    Calls Try.prog 67 #[.slice (some ⟨g, 0, none⟩) A.length cap] w fun en w' => en = .returned (.tuple #[]) ∧ ∃ Z : List Int, Z.Perm A ∧ Z.Pairwise (· ≤ ·) ∧ w'.ownsRow base e 1 (.slice (some ⟨g, 0, none⟩) A.length cap) A.length (Z.map (Value.int .i64)) ∧ w.grownBy w' (some g) := by
  have hg := h.lt g rfl
  rcases h.2 with ⟨h0, _⟩ | ⟨g', cap', cur, hv, hbase, hh, h1, h2, h3, h4⟩
  · cases h0
  simp only [Value.slice.injEq, Option.some.injEq, Addr.mk.injEq, and_true, true_and] at hv
  obtain ⟨rfl, rfl⟩ := hv
  have hcon := Any.slices_Sort_int Try.sortInt g 0 cap A w (holds_of_blockI hh (by rw [Nat.mul_one] at h4; exact h4)) hg.2 hlen
  change Calls Try.prog 67 _ _ _ at hcon
  refine hcon.mono ?_
  rintro en w' ⟨rfl, n, os, rfl⟩
  refine ⟨rfl, A.mergeSort fun x y => decide (x ≤ y), List.mergeSort_perm _ _, ?_, ownsRow_sortedI (by simp) hbase hh h1 h2 h3, grownBy_sortedI _⟩
  have := List.pairwise_mergeSort (le := fun x y : Int => decide (x ≤ y)) (fun a b c h1 h2 => by simp only [decide_eq_true_eq] at *; omega) (fun a b => by simp only [Bool.or_eq_true, decide_eq_true_eq]; omega) A
  exact this.imp (fun h => by simpa using h)

end Go.Proofs.Ytanbbkoleekmjag
