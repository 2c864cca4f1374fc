/-
  What Go of the program's journeys answers.
-/
import Derived.Test.YtjjhhmlogddnkaiDoorJpB
import Derived.Test.YtjjhhmlogddnkaiDoorHeldS
namespace Go.Proofs.YtjjhhmlogddnkaiDoor
open Go.RowKit

theorem results_tmp4j {fn : Func} {t u v x : Tmp} (h : fn.results = #[.tmp t, .tmp u, .tmp v, .tmp x]) (tmps : Array Value) (P : Program) (w : World) :
    (results fn tmps).run P w = .ok (.tuple #[tmps.getD t undef, tmps.getD u undef, tmps.getD v undef, tmps.getD x undef]) w := by
  simp [results, h]
/-- what Go hands back -/
def goW (a : Int × Int × Int × Int) : Value := .tuple #[.int .i64 a.1, .int .i64 a.2.1, .int .i64 a.2.2.1, .int .i64 a.2.2.2]
/-- a stop in a box: where one is, if one is anywhere -/
structure SBx (W : World) (B : Nat) (q : Int × Int × Int) : Prop where
  c0 : W.cell? ⟨B, 0, none⟩ = some (.int .i64 q.1)
  c1 : W.cell? ⟨B, 1, none⟩ = some (.int .i64 q.2.1)
  c2 : W.cell? ⟨B, 2, none⟩ = some (.int .i64 q.2.2)
  fz : ∀ j, W.frozen? ⟨B, j, none⟩ = false
  lt : B < W.heap.size
theorem SBx.below {W W' : World} {B : Nat} {q : Int × Int × Int} (h : SBx W B q) (hb : Below W.heap.size W W') : SBx W' B q :=
  ⟨(hb.cell (p := ⟨B, 0, none⟩) h.lt).trans h.c0, (hb.cell (p := ⟨B, 1, none⟩) h.lt).trans h.c1, (hb.cell (p := ⟨B, 2, none⟩) h.lt).trans h.c2, fun j => (hb.frozen (p := ⟨B, j, none⟩) h.lt).trans (h.fz j), Nat.lt_of_lt_of_le h.lt hb.size⟩
theorem SBx.set {W : World} {B : Nat} {q : Int × Int × Int} (h : SBx W B q) (p : Int × Int × Int) : SBx (((W.setCell ⟨B, 0, none⟩ (.int .i64 p.1)).setCell ⟨B, 1, none⟩ (.int .i64 p.2.1)).setCell ⟨B, 2, none⟩ (.int .i64 p.2.2)) B p := by
  have h0 := h.c0
  have h1 := h.c1
  have h2 := h.c2
  have hf := h.fz
  refine ⟨?_, ?_, ?_, fun j => ?_, by simpa using h.lt⟩
  · rw [World.cell?_setCell_other _ _ _ _ (by simp), World.cell?_setCell_other _ _ _ _ (by simp)]; exact World.cell?_setCell_same _ _ _ h0
  · rw [World.cell?_setCell_other _ _ _ _ (by simp)]; exact World.cell?_setCell_same _ _ _ (by rw [World.cell?_setCell_other _ _ _ _ (by simp)]; exact h1)
  · exact World.cell?_setCell_same _ _ _ (by rw [World.cell?_setCell_other _ _ _ _ (by simp), World.cell?_setCell_other _ _ _ _ (by simp)]; exact h2)
  · simp [hf]
theorem sbx_start {W : World} {q : Int × Int × Int} {T : TypeId} : SBx (W.alloc (.cells #[.int .i64 q.1, .int .i64 q.2.1, .int .i64 q.2.2] T)) W.heap.size q :=
  ⟨new_cell rfl rfl, new_cell rfl rfl, new_cell rfl rfl, fun _ => new_frozen rfl, by simp⟩
/-- the graph's box and the stop's -/
theorem GBx.set {w W : World} {B D : Nat} {g : Gr} {la ea : Option Addr} {lc ec : Nat} (h : GBx w W B g la ea lc ec) (hne : B ≠ D) (hD : w.heap.size ≤ D) (x y z : Value) : GBx w (((W.setCell ⟨D, 0, none⟩ x).setCell ⟨D, 1, none⟩ y).setCell ⟨D, 2, none⟩ z) B g la ea lc ec := by
  have h0 := h.c0
  have h1 := h.c1
  have h2 := h.c2
  have hne' : ¬ D = B := fun e => hne e.symm
  refine ⟨?_, ?_, ?_, set3 h.bel hD _ _ _, by simpa using h.lt⟩
  · rw [World.cell?_setCell_far _ _ _ _ hne', World.cell?_setCell_far _ _ _ _ hne', World.cell?_setCell_far _ _ _ _ hne']; exact h0
  · rw [World.cell?_setCell_far _ _ _ _ hne', World.cell?_setCell_far _ _ _ _ hne', World.cell?_setCell_far _ _ _ _ hne']; exact h1
  · rw [World.cell?_setCell_far _ _ _ _ hne', World.cell?_setCell_far _ _ _ _ hne', World.cell?_setCell_far _ _ _ _ hne']; exact h2

end Go.Proofs.YtjjhhmlogddnkaiDoor
