/-
  What latest of the program answers: the latest times; and Arrivals and Departures.
-/
import Derived.Test.YtjjhhmlogddnkaiDoorErB
import Derived.Test.YtjjhhmlogddnkaiDoorPk1
namespace Go.Proofs.YtjjhhmlogddnkaiDoor
open Go.RowKit

theorem ltGo_take {T : List Int} {l : List Ri} {k : Nat} (hk : k < l.length) : ltGo T (l.take (k + 1)) = ltT (ltGo T (l.take k)) l[k] := by
  unfold ltGo; rw [List.take_succ_eq_append_getElem hk, List.foldl_append]; rfl
/-- what latest holds while it looks at the rides -/
structure LtSt (w0 w : World) (m1 m3 n : Nat) (u : Value) (rides : List Ri) (T : List Int) : Prop where
  t : Zo w w0.heap.size m1 n n T
  r : w.ownsRow m3 68 6 u rides.length (encRs rides)
  b : Below w0.heap.size w0 w
theorem LtSt.below {w0 w w' : World} {m1 m3 n : Nat} {u : Value} {rides : List Ri} {T : List Int} (h : LtSt w0 w m1 m3 n u rides T) (hb : Below w.heap.size w w') : LtSt w0 w' m1 m3 n u rides T :=
  ⟨ownsRow_below h.t hb, ownsRow_below h.r hb, h.b.trans (hb.mono h.b.size)⟩
theorem LtSt.set {w0 w : World} {m1 m3 n : Nat} {u : Value} {rides : List Ri} {T : List Int} (h : LtSt w0 w m1 m3 n u rides T) (h13 : m1 < m3) (k : Nat) (x : Int) : LtSt w0 (w.setCell ⟨m1, k, none⟩ (.int .i64 x)) m1 m3 n u rides (T.set k x) := by
  have hm1 : w0.heap.size ≤ m1 := (World.ownsRow.lt h.t m1 rfl).1
  have hu : u.ownBlock ≠ some m1 := own_none fun k hk => Nat.lt_of_lt_of_le h13 (World.ownsRow.lt h.r k hk).1
  exact ⟨Zo.set h.t k x, ownsRow_setCell_other h.r hu _, h.b.setCell (p := ⟨m1, k, none⟩) hm1 _⟩
theorem LtSt.ride {w0 w : World} {m1 m3 n : Nat} {u : Value} {rides : List Ri} {T : List Int} (h : LtSt w0 w m1 m3 n u rides T) {k : Nat} (hk : k < rides.length) : ∃ rb cap, u = .slice (some ⟨rb, 0, none⟩) rides.length cap ∧ rb < w.heap.size ∧ RdOne w rb (k * 6) (rides.getD k ri0) := by
  have hr := h.r
  rcases hr.2 with ⟨_, h0⟩ | ⟨rb, cap, cur, e, _, hh, _⟩
  · omega
  · rw [e] at hr
    exact ⟨rb, cap, e, (Array.getElem?_eq_some_iff.1 hh).1, Ro.one hr hk⟩

/-- what Arrivals and Departures answer -/
def arrA (g : Gr) (v t : Int) : List Int := if placeE g v t = 0 then (erF g v t).1 else []
def depA (g : Gr) (v t : Int) : List Int := if placeE g v t = 0 then ltF g v t else []

set_option maxRecDepth 100000 in
set_option maxHeartbeats 1000000 in
theorem eArr_any (g : Gr) (la ea : Option Addr) (lc ec : Nat) (v t : Int) (w : World) (hG : GAt w la ea g) :
    Calls Tryd.prog 7 #[.agg #[.int .i64 g.hor, .slice la g.lives.length lc, .slice ea g.edges.length ec], .int .i64 v, .int .i64 t] w fun r w' => ∃ u, r = .returned (.tuple #[u, .int .i64 (placeE g v t)]) ∧ w'.ownsRow w.heap.size 3 1 u (arrA g v t).length ((arrA g v t).map (Value.int .i64)) ∧ Below w.heap.size w w' := by
  have B0 := gbx_start w g la ea lc ec 25
  have h1 := jcheck_any g la ea lc ec v t _ (hG.below B0.bel)
  by_cases e1 : placeE g v t = 0
  case neg =>
    have HP : Hid (arrA g v t = []) := by show _ = _; unfold arrA; rw [if_neg e1]
    have d1 : (placeE g v t != 0) = true := by simpa using e1
    generalize placeE g v t = n at *
    clear e1 hG
    go_enter Tryd.func7, Tryd.ntmps7
    go_wp2_with fail
    refine h1.mono ?_
    rintro r w1 ⟨rfl, hb1⟩
    have hbF := (B0.below hb1).bel
    clear h1 hb1 B0
    go_wp2
    (try simp only [Exit.inBlock, Exit.then]); refine bodyPost_ret (results_two_e rfl _ _ _) rfl ?_
    exact ⟨_, rfl, by rw [HP.out]; exact World.ownsRow_nil _ _ _ _, hbF⟩
  have HP : Hid (arrA g v t = (erF g v t).1) := by show _ = _; unfold arrA; rw [if_pos e1]
  have HL := hideg (erF_len g v t).1
  have h2 := fun W (hb : Below w.heap.size w W) => earliest_any g la ea lc ec v t W (hG.below hb) e1
  rw [e1] at h1 ⊢
  generalize (erF g v t).1 = T at *
  generalize (erF g v t).2 = L at *
  have HP2 := HP.out
  have HQ := hideg HP2
  clear hG e1 HP HP2
  go_enter Tryd.func7, Tryd.ntmps7
  go_wp2_with fail
  refine h1.mono ?_
  rintro r w1 ⟨rfl, hb1⟩
  have B1 := B0.below hb1
  have g0 := B1.c0
  have g1 := B1.c1
  have g2 := B1.c2
  have hbx := B1.bel
  clear h1 hb1 B0
  go_wp2_with fail
  refine (h2 _ hbx).mono ?_
  rintro r w2 ⟨m1, m2, rfl, hZ, _, hb2⟩
  have HZ := hideg (owns_base2 hZ hbx.size)
  have hbF := ptg hbx hb2
  clear h2 hZ hb2 g0 g1 g2 hbx B1
  go_wp2
  (try simp only [Exit.inBlock, Exit.then]); refine bodyPost_ret (results_two_e rfl _ _ _) rfl ?_
  exact ⟨_, rfl, by rw [HQ.out, HL.out]; exact HZ.out, hbF⟩

end Go.Proofs.YtjjhhmlogddnkaiDoor
