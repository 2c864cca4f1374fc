/-
  What In of the reference answers.
-/
import Derived.Test.YtnopdnajlbaccabSBase
namespace Go.Proofs.Ytnopdnajlbaccab
open Go.RowKit

/-- does n lie from lo to hi? -/
def inZ (n lo hi : Int) : Bool := decide (lo ≤ n) && decide (n ≤ hi)
theorem inZ_iff (n lo hi : Int) : inZ n lo hi = true ↔ lo ≤ n ∧ n ≤ hi := by unfold inZ; simp
theorem inZ_no {n lo hi : Int} (h : ¬ (lo ≤ n ∧ n ≤ hi)) : inZ n lo hi = false := by rw [← Bool.not_eq_true, inZ_iff]; exact h
theorem inZ_vtx (n : Nat) (v : Int) : inZ v 0 ((n : Int) - 1) = vtx n v := by
  rw [Bool.eq_iff_iff, inZ_iff, vtx_iff]; omega

theorem wrap_near (n : Int) (h0 : -9223372036854775808 ≤ n) (h1 : n < 9223372036854775808) : IntKind.i64.wrap n = n := by
  simp only [IntKind.wrap, IntKind.bits, IntKind.signed]
  simp
  omega

theorem rIn_any (n lo hi : Int) (w : World) : Calls Try.prog 8 #[.int .i64 n, .int .i64 lo, .int .i64 hi] w fun e w' => e = .returned (.bool (inZ n lo hi)) ∧ w' = w := by
  by_cases h1 : lo ≤ n
  · by_cases h2 : n ≤ hi
    · have HC := hidep ((inZ_iff n lo hi).2 ⟨h1, h2⟩)
      go_enter Try.func8, Try.ntmps8
      go_wp2
      go_ret
      exact ⟨retp_bool HC.out.symm, rfl⟩
    · have HC := hidep (inZ_no (n := n) (lo := lo) (hi := hi) (by omega))
      go_enter Try.func8, Try.ntmps8
      go_wp2
      go_ret
      exact ⟨retp_bool HC.out.symm, rfl⟩
  · have HC := hidep (inZ_no (n := n) (lo := lo) (hi := hi) (by omega))
    go_enter Try.func8, Try.ntmps8
    go_wp2
    go_ret
    exact ⟨retp_bool HC.out.symm, rfl⟩

end Go.Proofs.Ytnopdnajlbaccab
