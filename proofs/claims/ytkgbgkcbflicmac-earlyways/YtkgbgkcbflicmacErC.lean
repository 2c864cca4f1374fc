/-
  What latest of the program answers: the latest times; and Arrivals and Departures.
-/
import Derived.Test.YtkgbgkcbflicmacErB
import Derived.Test.YtkgbgkcbflicmacPop
namespace Go.Proofs.Ytkgbgkcbflicmac
open Go.RowKit

theorem ltGo_take {T : List Int} {l : List Ri} {k : Nat} (hk : k < l.length) : ltGo T (l.take (k + 1)) = ltT (ltGo T (l.take k)) l[k] := by
  unfold ltGo; rw [List.take_succ_eq_append_getElem hk, List.foldl_append]; rfl
/-- what latest holds while it looks at the rides -/
structure LtSt (w0 w : World) (m1 m3 n : Nat) (u : Value) (rides : List Ri) (T : List Int) : Prop where
  t : Zo w w0.heap.size m1 n n T
  r : w.ownsRow m3 66 6 u rides.length (encRs rides)
  b : Below w0.heap.size w0 w
theorem LtSt.below {w0 w w' : World} {m1 m3 n : Nat} {u : Value} {rides : List Ri} {T : List Int} (h : LtSt w0 w m1 m3 n u rides T) (hb : Below w.heap.size w w') : LtSt w0 w' m1 m3 n u rides T :=
  ⟨ownsRow_below h.t hb, ownsRow_below h.r hb, h.b.trans (hb.mono h.b.size)⟩
theorem LtSt.set {w0 w : World} {m1 m3 n : Nat} {u : Value} {rides : List Ri} {T : List Int} (h : LtSt w0 w m1 m3 n u rides T) (h13 : m1 < m3) (k : Nat) (x : Int) : LtSt w0 (w.setCell ⟨m1, k, none⟩ (.int .i64 x)) m1 m3 n u rides (T.set k x) := by
  have hm1 : w0.heap.size ≤ m1 := (World.ownsRow.lt h.t m1 rfl).1
  have hu : u.ownBlock ≠ some m1 := own_none fun k hk => Nat.lt_of_lt_of_le h13 (World.ownsRow.lt h.r k hk).1
  exact ⟨Zo.set h.t k x, ownsRow_setCell_other h.r hu _, h.b.setCell (p := ⟨m1, k, none⟩) hm1 _⟩
theorem LtSt.ride {w0 w : World} {m1 m3 n : Nat} {u : Value} {rides : List Ri} {T : List Int} (h : LtSt w0 w m1 m3 n u rides T) {k : Nat} (hk : k < rides.length) : ∃ rb cap, u = .slice (some ⟨rb, 0, none⟩) rides.length cap ∧ rb < w.heap.size ∧ RdOne w rb (k * 6) (rides.getD k ri0) := by
  have hr := h.r
  rcases hr.2 with ⟨_, h0⟩ | ⟨rb, cap, cur, e, _, hh, _⟩
  · omega
  · rw [e] at hr
    exact ⟨rb, cap, e, (Array.getElem?_eq_some_iff.1 hh).1, Ro.one hr hk⟩

/-- what Arrivals and Departures answer -/
def arrA (g : Gr) (v t : Int) : List Int := if placeE g v t = 0 then (erF g v t).1 else []
def depA (g : Gr) (v t : Int) : List Int := if placeE g v t = 0 then ltF g v t else []

end Go.Proofs.Ytkgbgkcbflicmac
