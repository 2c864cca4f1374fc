/-
  What check, alive and waits of the program's journeys answer.
-/
import Derived.Test.YteibdmfcclkjpahGCheck
import Derived.Test.YteibdmfcclkjpahSnap
import Derived.Test.YteibdmfcclkjpahHeldC
import Derived.Test.YteibdmfcclkjpahJpMath
import Derived.Test.YteibdmfcclkjpahRGraph
import Derived.OwnWalk
namespace Go.Proofs.Yteibdmfcclkjpah
open Go.RowKit

/-- a graph in a box of the program -/
structure GBx (w W : World) (B : Nat) (g : Gr) (la ea : Option Addr) (lc ec : Nat) : Prop where
  c0 : W.cell? ⟨B, 0, none⟩ = some (.int .i64 g.hor)
  c1 : W.cell? ⟨B, 1, none⟩ = some (.slice la g.lives.length lc)
  c2 : W.cell? ⟨B, 2, none⟩ = some (.slice ea g.edges.length ec)
  bel : Below w.heap.size w W
  lt : B < W.heap.size
theorem gbx_start (w : World) (g : Gr) (la ea : Option Addr) (lc ec : Nat) (T : TypeId) : GBx w (w.alloc (.cells #[.int .i64 g.hor, .slice la g.lives.length lc, .slice ea g.edges.length ec] T)) w.heap.size g la ea lc ec :=
  ⟨by simp, by simp, by simp, gal w _, by simp⟩
theorem GBx.below {w W W' : World} {B : Nat} {g : Gr} {la ea : Option Addr} {lc ec : Nat} (h : GBx w W B g la ea lc ec) (hb : Below W.heap.size W W') : GBx w W' B g la ea lc ec :=
  ⟨(hb.cell (p := ⟨B, 0, none⟩) h.lt).trans h.c0, (hb.cell (p := ⟨B, 1, none⟩) h.lt).trans h.c1, (hb.cell (p := ⟨B, 2, none⟩) h.lt).trans h.c2, ptg h.bel hb, Nat.lt_of_lt_of_le h.lt hb.size⟩

theorem placeE_chk {g : Gr} {v t : Int} (h : gChk g ≠ 0) : placeE g v t = gChk g := by unfold placeE; rw [if_neg h]
theorem placeE_none {g : Gr} {v t : Int} (h : gChk g = 0) (k : ¬ (0 ≤ v ∧ v < g.lives.length)) : placeE g v t = 4 := by unfold placeE; rw [if_pos h, if_neg (by rw [inR_iff]; omega)]
theorem placeE_arg {g : Gr} {v t : Int} (h : gChk g = 0) (k : 0 ≤ v ∧ v < g.lives.length) (k2 : ¬ (0 ≤ t ∧ t < g.hor)) : placeE g v t = 1 := by unfold placeE; rw [if_pos h, if_pos (by rw [inR_iff]; omega), if_neg (by rw [inR_iff]; omega)]
theorem placeE_ok {g : Gr} {v t : Int} (h : gChk g = 0) (k : 0 ≤ v ∧ v < g.lives.length) (k2 : 0 ≤ t ∧ t < g.hor) : placeE g v t = 0 := by unfold placeE; rw [if_pos h, if_pos (by rw [inR_iff]; omega), if_pos (by rw [inR_iff]; omega)]

end Go.Proofs.Yteibdmfcclkjpah
