/-
  What numbers of the reference answers.
-/
import Derived.Test.YteibdmfcclkjpadPk1
import Derived.Test.YteibdmfcclkjpadGRow
import Derived.Test.YteibdmfcclkjpadPop
namespace Go.Proofs.Yteibdmfcclkjpad
open Go.RowKit

theorem wrap_q (n : Int) (h0 : -9223372036854775808 ≤ n) (h1 : n < 9223372036854775808) : IntKind.i64.wrap n = n := by simp [IntKind.wrap, IntKind.bits, IntKind.signed]; omega
theorem new_cellP {W : World} {cs : Array Value} {T : TypeId} {b j : Nat} {x : Value} (hb : b = W.heap.size) (hx : cs[j]? = some x) : (W.alloc (.cells cs T)).cell? ⟨b, j, none⟩ = some x := by subst hb; simp [hx]
theorem owns_low {w : World} {B B' e size n : Nat} {v : Value} {xs : List Value} (h : w.ownsRow B e size v n xs) (hB : B' ≤ B) : w.ownsRow B' e size v n xs := by
  refine ⟨h.1, ?_⟩
  rcases h.2 with h0 | ⟨g, cap, cur, e1, hb, h3⟩
  · exact .inl h0
  · exact .inr ⟨g, cap, cur, e1, by omega, h3⟩
theorem Try.infoIntP : (Try.prog.info? 3).map (fun i => (i.zero, i.size, i.bytes)) = some (some (.int .i64 0), 1, 8) := by kernel_rfl

end Go.Proofs.Yteibdmfcclkjpad
