/-
  What Put of the program's maps answers.
-/
import Derived.Test.YtanbbkoleekmjagPMrg2
namespace Go.Proofs.Ytanbbkoleekmjag
open Go.RowKit

/-- the two boxes of Put: the map's and the piece's -/
structure Bx2 (w W : World) (x : Value) (p : Int × Int × Int) : Prop where
  c1 : W.cell? ⟨w.heap.size, 0, none⟩ = some x
  p0 : W.cell? ⟨w.heap.size + 1, 0, none⟩ = some (.int .i64 p.1)
  p1 : W.cell? ⟨w.heap.size + 1, 1, none⟩ = some (.int .i64 p.2.1)
  p2 : W.cell? ⟨w.heap.size + 1, 2, none⟩ = some (.int .i64 p.2.2)
  bel : Below w.heap.size w W
  lt : w.heap.size + 1 < W.heap.size
theorem bx2_start (w : World) (x : Value) (p : Int × Int × Int) (t1 t2 : TypeId) : Bx2 w ((w.alloc (.cells #[x] t1)).alloc (.cells #[.int .i64 p.1, .int .i64 p.2.1, .int .i64 p.2.2] t2)) x p := by
  refine ⟨?_, ?_, ?_, ?_, ptw (pal _ _) (pal _ _), by simp⟩
  · rw [World.cell?_alloc_past _ _ _ (by simp), World.cell?_alloc_at _ _ _ _ rfl]; rfl
  · rw [World.cell?_alloc_at _ _ _ _ (by simp)]; rfl
  · rw [World.cell?_alloc_at _ _ _ _ (by simp)]; rfl
  · rw [World.cell?_alloc_at _ _ _ _ (by simp)]; rfl
theorem Bx2.below {w W W' : World} {x : Value} {p : Int × Int × Int} (h : Bx2 w W x p) (hb : Below W.heap.size W W') : Bx2 w W' x p := by
  have l := h.lt
  refine ⟨?_, ?_, ?_, ?_, ptw h.bel hb, Nat.lt_of_lt_of_le l hb.size⟩
  · rw [hb.cell (p := ⟨w.heap.size, 0, none⟩) (by show w.heap.size < _; omega)]; exact h.c1
  · rw [hb.cell (p := ⟨w.heap.size + 1, 0, none⟩) (by show w.heap.size + 1 < _; omega)]; exact h.p0
  · rw [hb.cell (p := ⟨w.heap.size + 1, 1, none⟩) (by show w.heap.size + 1 < _; omega)]; exact h.p1
  · rw [hb.cell (p := ⟨w.heap.size + 1, 2, none⟩) (by show w.heap.size + 1 < _; omega)]; exact h.p2

/-- what Put comes to -/
def PutIs (m : List (Int × Int × Int)) (p : Int × Int × Int) (n : Int) (r : List (Int × Int × Int)) : Prop :=
  (¬ mchk m = 0 ∧ n = mchk m ∧ r = []) ∨ (mchk m = 0 ∧ ¬ NearP p ∧ n = 5 ∧ r = []) ∨ (mchk m = 0 ∧ NearP p ∧ MapIs (turnsOf m ++ [p.1, p.2.1]) (putF m p) n r)
theorem putIs_unique {m : List (Int × Int × Int)} {p : Int × Int × Int} {n n' : Int} {r r' : List (Int × Int × Int)} (h : PutIs m p n r) (h' : PutIs m p n' r') : n = n' ∧ r = r' := by
  rcases h with ⟨h0, h1, h2⟩ | ⟨h0, h0', h1, h2⟩ | ⟨h0, h0', h1⟩
  · rcases h' with ⟨g0, g1, g2⟩ | ⟨g0, g0', g1, g2⟩ | ⟨g0, g0', g1⟩
    · exact ⟨h1.trans g1.symm, h2.trans g2.symm⟩
    · exact absurd g0 h0
    · exact absurd g0 h0
  · rcases h' with ⟨g0, g1, g2⟩ | ⟨g0, g0', g1, g2⟩ | ⟨g0, g0', g1⟩
    · exact absurd h0 g0
    · exact ⟨h1.trans g1.symm, h2.trans g2.symm⟩
    · exact absurd g0' h0'
  · rcases h' with ⟨g0, g1, g2⟩ | ⟨g0, g0', g1, g2⟩ | ⟨g0, g0', g1⟩
    · exact absurd h0 g0
    · exact absurd h0' g0'
    · exact mapIs_unique h1 g1

end Go.Proofs.Ytanbbkoleekmjag
