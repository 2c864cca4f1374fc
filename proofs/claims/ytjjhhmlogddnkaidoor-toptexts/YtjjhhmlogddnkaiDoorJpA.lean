/-
  What check, alive and waits of the program's journeys answer.
-/
import Derived.Test.YtjjhhmlogddnkaiDoorPk1
import Derived.Test.YtjjhhmlogddnkaiDoorSnap
import Derived.Test.YtjjhhmlogddnkaiDoorHeldC
import Derived.Test.YtjjhhmlogddnkaiDoorJpMath
import Derived.Test.YtjjhhmlogddnkaiDoorRGraph
import Derived.OwnWalk
namespace Go.Proofs.YtjjhhmlogddnkaiDoor
open Go.RowKit

theorem jalive_any (a b t : Int) (w : World) : Calls Tryd.prog 33 #[.agg #[.int .i64 a, .int .i64 b], .int .i64 t] w fun e w' => e = .returned (.bool (hasB a b t)) ∧ Below w.heap.size w w' := by
  have HB := hideg (gal w)
  by_cases g1 : a ≤ t
  · by_cases g2 : t < b
    · have HC := hideg ((hasB_iff a b t).2 ⟨g1, g2⟩)
      go_enter Tryd.func33, Tryd.ntmps33
      go_wp2
      go_ret
      exact ⟨ret_bool HC.out.symm, HB.out _⟩
    · have HC := hideg (hasB_no (a := a) (b := b) (t := t) (fun h => g2 h.2))
      go_enter Tryd.func33, Tryd.ntmps33
      go_wp2
      go_ret
      exact ⟨ret_bool HC.out.symm, HB.out _⟩
  · have HC := hideg (hasB_no (a := a) (b := b) (t := t) (fun h => g1 h.1))
    go_enter Tryd.func33, Tryd.ntmps33
    go_wp2
    go_ret
    exact ⟨ret_bool HC.out.symm, HB.out _⟩

set_option maxHeartbeats 1000000 in
theorem jwaits_any (a b s t : Int) (w : World) : Calls Tryd.prog 54 #[.agg #[.int .i64 a, .int .i64 b], .int .i64 s, .int .i64 t] w fun e w' => e = .returned (.bool (decide (s ≤ t) && (hasB a b s && hasB a b t))) ∧ Below w.heap.size w w' := by
  have HB := hideg (gal w (.cells #[.int .i64 a, .int .i64 b] 51))
  by_cases g1 : s ≤ t
  · have HD : Hid (decide (s ≤ t) = true) := by show _ = _; simpa using g1
    have h1 := fun W => jalive_any a b s W
    have h2 := fun W => jalive_any a b t W
    cases e1 : hasB a b s with
    | false =>
      rw [e1] at h1
      go_enter Tryd.func54, Tryd.ntmps54
      go_wp2_with (go_at_call 33; refine (h1 _).mono ?_; rintro e w1 ⟨rfl, hb1⟩)
      go_ret
      exact ⟨by rw [HD.out]; rfl, ptg HB.out (by assumption)⟩
    | true =>
      rw [e1] at h1
      cases e2 : hasB a b t <;> rw [e2] at h2
      all_goals
        go_enter Tryd.func54, Tryd.ntmps54
        go_wp2_with fail
        refine (h1 _).mono ?_
        rintro e w1 ⟨rfl, hb1⟩
        have c0 : w1.cell? ⟨w.heap.size, 0, none⟩ = some (.int .i64 a) := by rw [hb1.cell (p := ⟨w.heap.size, 0, none⟩) (by simp)]; simp
        have c1 : w1.cell? ⟨w.heap.size, 1, none⟩ = some (.int .i64 b) := by rw [hb1.cell (p := ⟨w.heap.size, 1, none⟩) (by simp)]; simp
        have hbb := ptg HB.out hb1
        clear hb1 h1
        go_wp2_with fail
        refine (h2 _).mono ?_
        rintro e w2 ⟨rfl, hb2⟩
        have hbF := ptg hbb hb2
        clear hb2 h2
        go_wp2
        go_ret
        exact ⟨by rw [HD.out]; rfl, hbF⟩
  · have HD : Hid (decide (s ≤ t) = false) := by show _ = _; simpa using g1
    go_enter Tryd.func54, Tryd.ntmps54
    go_wp2
    go_ret
    exact ⟨by rw [HD.out]; rfl, HB.out⟩

/-- a graph in a box of the program -/
structure GBx (w W : World) (B : Nat) (g : Gr) (la ea : Option Addr) (lc ec : Nat) : Prop where
  c0 : W.cell? ⟨B, 0, none⟩ = some (.int .i64 g.hor)
  c1 : W.cell? ⟨B, 1, none⟩ = some (.slice la g.lives.length lc)
  c2 : W.cell? ⟨B, 2, none⟩ = some (.slice ea g.edges.length ec)
  bel : Below w.heap.size w W
  lt : B < W.heap.size
theorem gbx_start (w : World) (g : Gr) (la ea : Option Addr) (lc ec : Nat) (T : TypeId) : GBx w (w.alloc (.cells #[.int .i64 g.hor, .slice la g.lives.length lc, .slice ea g.edges.length ec] T)) w.heap.size g la ea lc ec :=
  ⟨by simp, by simp, by simp, gal w _, by simp⟩
theorem GBx.below {w W W' : World} {B : Nat} {g : Gr} {la ea : Option Addr} {lc ec : Nat} (h : GBx w W B g la ea lc ec) (hb : Below W.heap.size W W') : GBx w W' B g la ea lc ec :=
  ⟨(hb.cell (p := ⟨B, 0, none⟩) h.lt).trans h.c0, (hb.cell (p := ⟨B, 1, none⟩) h.lt).trans h.c1, (hb.cell (p := ⟨B, 2, none⟩) h.lt).trans h.c2, ptg h.bel hb, Nat.lt_of_lt_of_le h.lt hb.size⟩

theorem placeE_chk {g : Gr} {v t : Int} (h : gChk g ≠ 0) : placeE g v t = gChk g := by unfold placeE; rw [if_neg h]
theorem placeE_none {g : Gr} {v t : Int} (h : gChk g = 0) (k : ¬ (0 ≤ v ∧ v < g.lives.length)) : placeE g v t = 4 := by unfold placeE; rw [if_pos h, if_neg (by rw [inR_iff]; omega)]
theorem placeE_arg {g : Gr} {v t : Int} (h : gChk g = 0) (k : 0 ≤ v ∧ v < g.lives.length) (k2 : ¬ (0 ≤ t ∧ t < g.hor)) : placeE g v t = 1 := by unfold placeE; rw [if_pos h, if_pos (by rw [inR_iff]; omega), if_neg (by rw [inR_iff]; omega)]
theorem placeE_ok {g : Gr} {v t : Int} (h : gChk g = 0) (k : 0 ≤ v ∧ v < g.lives.length) (k2 : 0 ≤ t ∧ t < g.hor) : placeE g v t = 0 := by unfold placeE; rw [if_pos h, if_pos (by rw [inR_iff]; omega), if_pos (by rw [inR_iff]; omega)]

set_option maxRecDepth 100000 in
set_option maxHeartbeats 2000000 in
theorem jcheck_any (g : Gr) (la ea : Option Addr) (lc ec : Nat) (v t : Int) (w : World) (hG : GAt w la ea g) :
    Calls Tryd.prog 17 #[.agg #[.int .i64 g.hor, .slice la g.lives.length lc, .slice ea g.edges.length ec], .int .i64 v, .int .i64 t] w fun r w' => r = .returned (.int .i64 (placeE g v t)) ∧ Below w.heap.size w w' := by
  have B0 := gbx_start w g la ea lc ec 25
  have h1 := gCheck_any g la ea lc ec _ (hG.below B0.bel)
  by_cases e1 : gChk g = 0
  · have hR := gChk_right e1
    have hl12 := hR.lvs
    have hh := hR.hor
    have hv := fun W => gHasV_any g.hor la ea g.lives.length lc g.edges.length ec v W hl12
    have ht := fun W => gHasT_any g.hor la ea g.lives.length lc g.edges.length ec t W hh.1 hh.2
    have HQ : Hid (placeE g v t = if inR v 0 ((g.lives.length : Int) - 1) = true then if inR t 0 (g.hor - 1) = true then 0 else 1 else 4) := by show _ = _; unfold placeE; rw [if_pos e1]
    rw [e1] at h1
    clear hG e1 hR hh
    cases bv : inR v 0 ((g.lives.length : Int) - 1) with
    | false =>
      rw [bv] at hv HQ
      clear bv ht
      go_enter Tryd.func17, Tryd.ntmps17
      go_wp2_with fail
      refine h1.mono ?_
      rintro e w1 ⟨rfl, hb1⟩
      have B1 := B0.below hb1
      have cc0 := B1.c0
      have cc1 := B1.c1
      have cc2 := B1.c2
      clear h1 hb1 B0
      go_wp2_with fail
      refine (hv _).mono ?_
      rintro e w2 ⟨rfl, hb2⟩
      have hbF := (B1.below hb2).bel
      clear hv hb2 B1 cc0 cc1 cc2
      go_wp2
      go_ret
      exact ⟨ret_int HQ.out.symm, by assumption⟩
    | true =>
      rw [bv] at hv HQ
      cases bt : inR t 0 (g.hor - 1) <;> rw [bt] at ht HQ
      all_goals
        clear bv bt
        go_enter Tryd.func17, Tryd.ntmps17
        go_wp2_with fail
        refine h1.mono ?_
        rintro e w1 ⟨rfl, hb1⟩
        have B1 := B0.below hb1
        have cc0 := B1.c0
        have cc1 := B1.c1
        have cc2 := B1.c2
        clear h1 hb1 B0
        go_wp2_with fail
        refine (hv _).mono ?_
        rintro e w2 ⟨rfl, hb2⟩
        have B2 := B1.below hb2
        clear hv hb2 B1 cc0 cc1 cc2
        have cc0 := B2.c0
        have cc1 := B2.c1
        have cc2 := B2.c2
        go_wp2_with fail
        refine (ht _).mono ?_
        rintro e w3 ⟨rfl, hb3⟩
        have hbF := (B2.below hb3).bel
        clear ht hb3 B2 cc0 cc1 cc2
        go_wp2
        go_ret
        exact ⟨ret_int HQ.out.symm, by assumption⟩
  · have HP := hideg (placeE_chk (v := v) (t := t) e1)
    have d1 : (gChk g != 0) = true := by simpa using e1
    generalize gChk g = n at *
    clear hG e1
    go_enter Tryd.func17, Tryd.ntmps17
    go_wp2_with fail
    refine h1.mono ?_
    rintro e w1 ⟨rfl, hb1⟩
    have hbF := (B0.below hb1).bel
    clear h1 hb1 B0
    go_wp2
    go_ret
    exact ⟨ret_int HP.out.symm, hbF⟩

end Go.Proofs.YtjjhhmlogddnkaiDoor
