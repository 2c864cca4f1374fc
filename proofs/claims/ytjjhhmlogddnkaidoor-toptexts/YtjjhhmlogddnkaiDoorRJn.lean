/-
  What Place and Lands of the reference answer.
-/
import Derived.Test.YtjjhhmlogddnkaiDoorRGraph
import Derived.Test.YtjjhhmlogddnkaiDoorRSnap
import Derived.Test.YtjjhhmlogddnkaiDoorJnMath
import Derived.OwnWalk
namespace Go.Proofs.YtjjhhmlogddnkaiDoor
open Go.RowKit

theorem wrap_nr (n : Int) (h0 : -9223372036854775808 ≤ n) (h1 : n < 9223372036854775808) : IntKind.i64.wrap n = n := by
  simp only [IntKind.wrap, IntKind.bits, IntKind.signed]
  simp
  omega

/-- a graph in a box -/
structure GBox (w W : World) (B : Nat) (g : Gr) (la ea : Option Addr) (lc ec : Nat) : Prop where
  c0 : W.cell? ⟨B, 0, none⟩ = some (.int .i64 g.hor)
  c1 : W.cell? ⟨B, 1, none⟩ = some (.slice la g.lives.length lc)
  c2 : W.cell? ⟨B, 2, none⟩ = some (.slice ea g.edges.length ec)
  bel : Below w.heap.size w W
  lt : B < W.heap.size
theorem gbox_start (w : World) (g : Gr) (la ea : Option Addr) (lc ec : Nat) (T : TypeId) : GBox w (w.alloc (.cells #[.int .i64 g.hor, .slice la g.lives.length lc, .slice ea g.edges.length ec] T)) w.heap.size g la ea lc ec :=
  ⟨by simp, by simp, by simp, gal w _, by simp⟩
theorem GBox.below {w W W' : World} {B : Nat} {g : Gr} {la ea : Option Addr} {lc ec : Nat} (h : GBox w W B g la ea lc ec) (hb : Below W.heap.size W W') : GBox w W' B g la ea lc ec :=
  ⟨(hb.cell (p := ⟨B, 0, none⟩) h.lt).trans h.c0, (hb.cell (p := ⟨B, 1, none⟩) h.lt).trans h.c1, (hb.cell (p := ⟨B, 2, none⟩) h.lt).trans h.c2, ptg h.bel hb, Nat.lt_of_lt_of_le h.lt hb.size⟩
theorem GBox.drewN {w W : World} {B : Nat} {g : Gr} {la ea : Option Addr} {lc ec : Nat} (h : GBox w W B g la ea lc ec) (n : Nat) : GBox w (W.drewN n) B g la ea lc ec := ⟨h.c0, h.c1, h.c2, below_drewN h.bel n, h.lt⟩

/-- a graph, an edge and a leg in boxes -/
structure LBox (w W : World) (B E K : Nat) (g : Gr) (la ea : Option Addr) (lc ec : Nat) (e : Ed) (l : Lg) : Prop where
  gb : GBox w W B g la ea lc ec
  e0 : W.cell? ⟨E, 0, none⟩ = some (.int .i64 e.1)
  e1 : W.cell? ⟨E, 1, none⟩ = some (.int .i64 e.2.1)
  l2 : W.cell? ⟨K, 2, none⟩ = some (.int .i64 l.2.2.1)
  l3 : W.cell? ⟨K, 3, none⟩ = some (.int .i64 l.2.2.2)
  ltE : E < W.heap.size
  ltK : K < W.heap.size
theorem LBox.below {w W W' : World} {B E K : Nat} {g : Gr} {la ea : Option Addr} {lc ec : Nat} {e : Ed} {l : Lg} (h : LBox w W B E K g la ea lc ec e l) (hb : Below W.heap.size W W') : LBox w W' B E K g la ea lc ec e l :=
  ⟨h.gb.below hb, (hb.cell (p := ⟨E, 0, none⟩) h.ltE).trans h.e0, (hb.cell (p := ⟨E, 1, none⟩) h.ltE).trans h.e1, (hb.cell (p := ⟨K, 2, none⟩) h.ltK).trans h.l2, (hb.cell (p := ⟨K, 3, none⟩) h.ltK).trans h.l3, Nat.lt_of_lt_of_le h.ltE hb.size, Nat.lt_of_lt_of_le h.ltK hb.size⟩

/-- what Lands tells -/
def landsV (o : Option (Int × Int)) : Value := .tuple #[.int .i64 (o.getD (0, 0)).1, .int .i64 (o.getD (0, 0)).2, .bool o.isSome]

end Go.Proofs.YtjjhhmlogddnkaiDoor
