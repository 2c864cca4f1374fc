/-
  Rest of the reference at any number above nought.
-/
import Derived.Test.YteibdmfcclkjpadRJn
namespace Go.Proofs.Yteibdmfcclkjpad
open Go.RowKit

/-- the rest that is not below nought -/
def restF (n m : Int) : Int := if n.tmod m < 0 then n.tmod m + m else n.tmod m
theorem restF_in (n m : Int) (hm : 0 < m) : 0 ≤ restF n m ∧ restF n m < m := by
  have h1 := Int.tmod_lt_of_pos n hm
  have h2 := Int.lt_tmod_of_pos n hm
  unfold restF
  split <;> omega
theorem restF_any (n m : Int) (hm : 0 < m) (hM : m < 4611686018427387904) (w : World) :
    Calls Try.prog 29 #[.int .i64 n, .int .i64 m] w fun e w' => e = .returned (.int .i64 (restF n m)) ∧ w' = w := by
  have h1 := Int.tmod_lt_of_pos n hm
  have h2 := Int.lt_tmod_of_pos n hm
  have hz : ¬ m = 0 := by omega
  have hz' : (m == 0) = false := by simpa using hz
  have hw0 : IntKind.i64.wrap (n.tmod m) = n.tmod m := wrap_nr _ (by omega) (by omega)
  by_cases h0 : n.tmod m < 0
  · have d : decide (n.tmod m < 0) = true := by simpa using h0
    have hw : IntKind.i64.wrap (n.tmod m + m) = n.tmod m + m := wrap_nr _ (by omega) (by omega)
    have HQ : Hid (restF n m = n.tmod m + m) := by show _ = _; unfold restF; rw [if_pos h0]
    go_enter Try.func29, Try.ntmps29
    go_wp2
    go_ret
    exact ⟨by rw [HQ.out]; rfl, rfl⟩
  · have d : decide (n.tmod m < 0) = false := by simpa using h0
    have HQ : Hid (restF n m = n.tmod m) := by show _ = _; unfold restF; rw [if_neg h0]
    go_enter Try.func29, Try.ntmps29
    go_wp2
    go_ret
    exact ⟨by rw [HQ.out]; rfl, rfl⟩
theorem restN_any (n m : Int) (hm : 0 < m) (hM : m < 4611686018427387904) (w : World) :
    Calls Try.prog 29 #[.int .i64 n, .int .i64 m] w fun e w' => (∃ k : Int, 0 ≤ k ∧ k < m ∧ e = .returned (.int .i64 k)) ∧ w' = w :=
  (restF_any n m hm hM w).mono fun _ _ h => ⟨⟨_, (restF_in n m hm).1, (restF_in n m hm).2, h.1⟩, h.2⟩

end Go.Proofs.Yteibdmfcclkjpad
