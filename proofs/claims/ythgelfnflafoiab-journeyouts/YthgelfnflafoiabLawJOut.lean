/-
  The law JourneyOuts, walked.
-/
import Derived.Test.YthgelfnflafoiabJpD
import Derived.Test.YthgelfnflafoiabROut
import Derived.Test.YthgelfnflafoiabEqH
namespace Go.Proofs.Ythgelfnflafoiab
open Go.RowKit

set_option maxRecDepth 100000 in
set_option maxHeartbeats 4000000 in
theorem journeyOuts_walk (g : Gr) (la ea : Option Addr) (lc ec : Nat) (v t : Int) (w : World) (hG : GAt w la ea g) :
    Calls Try.prog 5 #[.agg #[.int .i64 g.hor, .slice la g.lives.length lc, .slice ea g.edges.length ec], .int .i64 v, .int .i64 t] w fun r w' => r = .returned (.bool true) ∧ Below w.heap.size w w' := by
  have B0 := gbx_start w g la ea lc ec 41
  have h1 := jOut_any g la ea lc ec v t _ (hG.below B0.bel)
  have h2 := fun W (hb : Below w.heap.size w W) => Place_any g la ea lc ec v t W (hG.below hb)
  have h3 := fun (h0 : placeE g v t = 0) W (hb : Below w.heap.size w W) => Outs_any g la ea lc ec v t W (hG.below hb) h0
  by_cases e1 : placeE g v t = 0
  · have HO : outAns g v t = outsF g v t := by unfold outAns; rw [if_pos e1]
    have h3 := h3 e1
    have hln : (outsF g v t).length ≤ 9223372036854775807 := by
      obtain ⟨hg0, _, ht0, _⟩ := placeE_zero e1
      have hR := gChk_right hg0
      have h1 := hR.hor
      have h2 := hR.eds
      unfold outsF
      split
      · exact Nat.le_trans (outsTo_len g v t _) (Nat.le_trans (Nat.mul_le_mul (show (g.hor - t).toNat ≤ 100 by omega) h2) (by omega))
      · simp
    rw [e1] at h1 h2
    rw [HO] at h1
    generalize outsF g v t = out at *
    clear hG e1 HO
    go_enter Try.func5, Try.ntmps5
    go_wp2_with fail
    refine h1.mono ?_
    rintro r w1 ⟨u, rfl, ho1, hb1⟩
    have B1 := B0.below hb1
    have g0 := B1.c0
    have g1 := B1.c1
    have g2 := B1.c2
    have hbx := B1.bel
    clear h1 hb1 B0
    go_wp2_with fail
    refine (h2 _ hbx).mono ?_
    rintro r w2 ⟨rfl, hb2⟩
    have B2 := B1.below hb2
    have ho2 := ownsRow_below ho1 hb2
    clear g0 g1 g2 hbx ho1 hb2 B1 h2
    have g0 := B2.c0
    have g1 := B2.c1
    have g2 := B2.c2
    have hbx := B2.bel
    go_wp2_with fail
    refine (h3 _ hbx).mono ?_
    rintro r w3 ⟨u3, rfl, ho3, hb3⟩
    have hbF := ptg hbx hb3
    obtain ⟨ao, ca, rfl, hA⟩ := ivAt_of_owns (ownsRow_below ho2 hb3)
    obtain ⟨bo, cb, rfl, hB⟩ := ivAt_of_owns ho3
    have h4 := EqualHop_any ao bo ca cb out out w3 hA hB hln
    rw [show decide (out = out) = true from decide_eq_true rfl] at h4
    clear g0 g1 g2 hbx ho2 ho3 hb3 B2 h3 hA hB
    go_wp2_with fail
    refine h4.mono ?_
    rintro r w4 ⟨rfl, hb4⟩
    have hbE := ptg hbF hb4
    clear h4 hb4 hbF
    go_wp2
    go_ret
    exact ⟨rfl, hbE⟩
  · have HO : outAns g v t = [] := by unfold outAns; rw [if_neg e1]
    have d1 : (placeE g v t == 0) = false := by simpa using e1
    have d2 : (placeE g v t == placeE g v t) = true := by simp
    rw [HO] at h1
    generalize placeE g v t = n at *
    clear hG e1 HO h3
    go_enter Try.func5, Try.ntmps5
    go_wp2_with fail
    refine h1.mono ?_
    rintro r w1 ⟨u, rfl, ho1, hb1⟩
    have B1 := B0.below hb1
    have g0 := B1.c0
    have g1 := B1.c1
    have g2 := B1.c2
    have hbx := B1.bel
    clear h1 hb1 B0
    go_wp2_with fail
    refine (h2 _ hbx).mono ?_
    rintro r w2 ⟨rfl, hb2⟩
    have hbF := ptg hbx hb2
    obtain ⟨ao, ca, rfl, hA⟩ := ivAt_of_owns (ownsRow_below ho1 hb2)
    have h4 := EqualHop_any ao none ca 0 [] [] w2 hA (.inl rfl) (by simp)
    rw [show decide (([] : List (Int × Int)) = []) = true from decide_eq_true rfl] at h4
    clear g0 g1 g2 hbx ho1 hb2 B1 h2 hA
    go_wp2_with fail
    refine h4.mono ?_
    rintro r w4 ⟨rfl, hb4⟩
    have hbE := ptg hbF hb4
    clear h4 hb4 hbF
    go_wp2
    go_ret
    exact ⟨rfl, hbE⟩

end Go.Proofs.Ythgelfnflafoiab
