/-
  The law JourneyGoes, walked.
-/
import Derived.Test.YthgelfnflafoiabJpC
import Derived.Test.YthgelfnflafoiabRGo
namespace Go.Proofs.Ythgelfnflafoiab
open Go.RowKit

set_option maxRecDepth 100000 in
set_option maxHeartbeats 4000000 in
theorem journeyGoes_walk (g : Gr) (la ea : Option Addr) (lc ec : Nat) (v t : Int) (ho : Option Addr) (hc : Nat) (l : List Hp) (w : World) (hG : GAt w la ea g) (hH : IvAt w ho l) (hlen : l.length ≤ 9223372036854775807) :
    Calls Try.prog 4 #[.agg #[.int .i64 g.hor, .slice la g.lives.length lc, .slice ea g.edges.length ec], .int .i64 v, .int .i64 t, .slice ho l.length hc] w fun r w' => r = .returned (.bool true) ∧ Below w.heap.size w w' := by
  have B0 := gbx_start w g la ea lc ec 41
  have h1 := jGo_any g la ea lc ec v t ho hc l _ (hG.below B0.bel) (hH.below B0.bel) hlen
  have h2 := fun W (hb : Below w.heap.size w W) => RGo_any g la ea lc ec v t ho hc l W (hG.below hb) (hH.below hb) hlen
  unfold goW at h1
  unfold goV at h2
  generalize goAns g v t l = q at *
  obtain ⟨q1, q2, q3, q4⟩ := q
  simp only at h1 h2
  clear hG hH
  go_enter Try.func4, Try.ntmps4
  go_wp2_with fail
  refine h1.mono ?_
  rintro r w1 ⟨rfl, hb1⟩
  have B1 := B0.below hb1
  have g0 := B1.c0
  have g1 := B1.c1
  have g2 := B1.c2
  have hbx := B1.bel
  clear h1 hb1 B0 B1
  go_wp2_with fail
  refine (h2 _ hbx).mono ?_
  rintro r w2 ⟨rfl, hb2⟩
  have hbF := ptg hbx hb2
  clear h2 hb2 g0 g1 g2 hbx
  go_wp2
  go_ret
  exact ⟨rfl, hbF⟩

end Go.Proofs.Ythgelfnflafoiab
