/-
  slices.EqualFunc of two rows of rows of bools that tell the same.
-/
import Derived.Test.YtanbbkoleekmjagEqG
import Derived.Test.YtanbbkoleekmjagRwRows
namespace Go.Proofs.Ytanbbkoleekmjag
open Go.RowKit

/-- rows of bools lie at an address -/
def BsRows (W : World) (ao : Option Addr) (rows : List (List Bool)) : Prop :=
  rows = [] ∨ ∃ b off, ao = some ⟨b, off, none⟩ ∧ b < W.heap.size ∧ ∀ v (h : v < rows.length), ∃ ai ci, W.cell? ⟨b, off + v, none⟩ = some (.slice ai rows[v].length ci) ∧ BsAt W ai rows[v]
theorem BsRows.below {W W' : World} {ao : Option Addr} {rows : List (List Bool)} (h : BsRows W ao rows) (hb : Below W.heap.size W W') : BsRows W' ao rows := by
  rcases h with h | ⟨b, off, rfl, hlt, hc⟩
  · exact .inl h
  · refine .inr ⟨b, off, rfl, Nat.lt_of_lt_of_le hlt hb.size, fun v hv => ?_⟩
    obtain ⟨ai, ci, h1, h2⟩ := hc v hv
    exact ⟨ai, ci, (hb.cell (p := ⟨b, off + v, none⟩) hlt).trans h1, h2.below hb⟩
theorem rm_rows {base oT eT go n h : Nat} {W : World} {bl : List (Nat × Nat)} {R : Nat → List Bool} (M : RM base oT eT go n h W bl (fun v => (R v).map Value.bool)) (hn : bl.length = n) : BsRows W (some ⟨go, 0, none⟩) ((List.range n).map R) := by
  refine .inr ⟨go, 0, rfl, M.lt.2, fun v hv => ?_⟩
  have hv' : v < n := by simpa using hv
  obtain ⟨ai, ci, e, hz⟩ := bsAt_of_owns (M.inn v (by omega))
  have hl := M.len (v := v) (by omega)
  simp only [List.length_map] at hl
  simp only [List.getElem_map, List.getElem_range, Nat.zero_add]
  refine ⟨ai, ci, ?_, hz⟩
  rw [M.out (by omega), e]

end Go.Proofs.Ytanbbkoleekmjag
