/-
  The law TopBest, walked.
-/
import Derived.Test.YtanbbkoleekmjaiTSaid
import Derived.Test.YtanbbkoleekmjaiTWalk
import Derived.Test.YtanbbkoleekmjaiJpC
namespace Go.Proofs.Ytanbbkoleekmjai
open Go.RowKit

set_option maxRecDepth 100000 in
set_option maxHeartbeats 1000000 in
theorem topBest_walk (g : Gr) (la ea : Option Addr) (lc ec : Nat) (v t : Int) (po : Option Addr) (pc : Nat) (picks : List Int) (w : World) (hG : GAt w la ea g) (hP : ZsAt w po picks) (hpc : picks.length ≤ pc) (hpm : pc ≤ 9223372036854775807) :
    Calls Try.prog 3 #[.agg #[.int .i64 g.hor, .slice la g.lives.length lc, .slice ea g.edges.length ec], .int .i64 v, .int .i64 t, .slice po picks.length pc] w fun r w' => r = .returned (.bool true) ∧ Below w.heap.size w w' := by
  have B0 := gbx_start w g la ea lc ec 25
  have hs := fun W => said_any W
  have HA := hideg (fun W (hb : Below w.heap.size w W) => eArr_any g la ea lc ec v t W (hG.below hb))
  have HC := hideg (fun W (hb : Below w.heap.size w W) => cCosts_any g la ea lc ec v t W (hG.below hb))
  have HH := hideg (fun W (hb : Below w.heap.size w W) => cHops_any g la ea lc ec v t W (hG.below hb))
  have HWk := hideg (fun W (hb : Below w.heap.size w W) => walkT_any g la ea lc ec v t po pc picks W (hG.below hb) (hP.below hb) hpc hpm)
  have HGo := hideg (fun ho hc l W (hb : Below w.heap.size w W) (hI : IvAt W ho l) (hl : l.length ≤ 500) => jGo_any g la ea lc ec v t ho hc l W (hG.below hb) hI (by omega))
  have HF := hideg (fun q W (hb : Below w.heap.size w W) => cFastest_any g la ea lc ec v q W (hG.below hb))
  clear hG hP hpc hpm
  go_enter Try.func3, Try.ntmps3
  go_wp2_with fail
  refine (hs _).mono ?_
  rintro r w1 ⟨rfl, hb1⟩
  have B1 := B0.below hb1
  have h2 := HA.out w1 B1.bel
  clear hs hb1 B0 HA
  have g0 := B1.c0
  have g1 := B1.c1
  have g2 := B1.c2
  go_wp2_with fail
  refine h2.mono ?_
  rintro r w2 ⟨uA, rfl, hoA, hb2⟩
  have B2 := B1.below hb2
  have h3 := HC.out w2 B2.bel
  clear h2 hb2 B1 HC g0 g1 g2
  have g0 := B2.c0
  have g1 := B2.c1
  have g2 := B2.c2
  go_wp2_with fail
  refine h3.mono ?_
  rintro r w3 ⟨uC, LC, rfl, hEC, hoC, hb3⟩
  have B3 := B2.below hb3
  have hoA := ownsRow_below hoA hb3
  have h4 := HH.out w3 B3.bel
  clear h3 hb3 B2 g0 g1 g2 HH
  have g0 := B3.c0
  have g1 := B3.c1
  have g2 := B3.c2
  go_wp2_with fail
  refine h4.mono ?_
  rintro r w4 ⟨uH, LH, rfl, hEH, hoH, hb4⟩
  have B4 := B3.below hb4
  have hoA := ownsRow_below hoA hb4
  have hoC := ownsRow_below hoC hb4
  clear h4 hb4 B3 g0 g1 g2
  have hbF := B4.bel
  by_cases e1 : placeE g v t = 0
  case neg =>
    have d1 : (placeE g v t != 0) = true := by simpa using e1
    have d2 : (placeE g v t == placeE g v t) = true := by simp
    generalize placeE g v t = n at *
    clear e1 hEC hEH hoC hoA hoH B4 HWk HGo HF
    go_wp2
    go_ret
    exact ⟨rfl, hbF⟩
  obtain ⟨hg0, ⟨hv0, hv1⟩, ht0, ht1⟩ := placeE_zero e1
  have hR := gChk_right hg0
  have hlen := hR.lvs
  have hhor := hR.hor
  have hC := leastE_ok hEC e1
  have hH := leastE_ok hEH e1
  have eA : arrA g v t = (erF g v t).1 := by unfold arrA; rw [if_pos e1]
  rw [eA, (erF_len g v t).1] at hoA
  rw [hC.len] at hoC
  rw [hH.len] at hoH
  have hn0 : 0 < g.lives.length := by omega
  rcases hoC.2 with ⟨_, h0⟩ | ⟨gC, cC, curC, rfl, _⟩
  · omega
  rcases hoH.2 with ⟨_, h0⟩ | ⟨gH, cH, curH, rfl, _⟩
  · omega
  rcases hoA.2 with ⟨_, h0⟩ | ⟨gA, cA, curA, rfl, _⟩
  · omega
  have lC := (World.ownsRow.lt hoC _ rfl).2
  have lH := (World.ownsRow.lt hoH _ rfl).2
  have lA := (World.ownsRow.lt hoA _ rfl).2
  have HCc := hideg (fun W (hb : Below w4.heap.size w4 W) (k : Nat) (hk : k < g.lives.length) => (hb.cell (p := ⟨gC, k, none⟩) lC).trans (Zo.cell hoC hk))
  have HHc := hideg (fun W (hb : Below w4.heap.size w4 W) (k : Nat) (hk : k < g.lives.length) => (hb.cell (p := ⟨gH, k, none⟩) lH).trans (Zo.cell hoH hk))
  have HAc := hideg (fun W (hb : Below w4.heap.size w4 W) (k : Nat) (hk : k < g.lives.length) => (hb.cell (p := ⟨gA, k, none⟩) lA).trans (Zo.cell hoA hk))
  have HX : Hid (∀ l a b, WalkIs g v t l a b → l.length ≤ 20 → (l = [] ∧ goAns g v t l = (0, 0, 0, 5)) ∨ ∃ (Y : Nat) (y c : Int), goAns g v t l = ((Y : Int), y, c, 0) ∧ Y < g.lives.length ∧ (0 ≤ y ∧ y < 100) ∧ (erF g v t).1.getD Y 0 ≤ y ∧ LC.getD Y 0 ≤ c ∧ LH.getD Y 0 ≤ l.length ∧ ∀ d s e, FastE g v (Y : Int) d s e → e = 0 ∧ d ≤ y - t) := fun l a b hW hl => by
    have key : ∀ s : Int × Int × Int, There g (v, t, 0) → goF g (some (v, t, 0)) l = some s → ∃ (Y : Nat) (y c : Int), goAns g v t l = ((Y : Int), y, c, 0) ∧ Y < g.lives.length ∧ (0 ≤ y ∧ y < 100) ∧ (erF g v t).1.getD Y 0 ≤ y ∧ LC.getD Y 0 ≤ c ∧ LH.getD Y 0 ≤ l.length ∧ ∀ d s e, FastE g v (Y : Int) d s e → e = 0 ∧ d ≤ y - t := fun s hT hgo => by
      have hga := goAns_ok (s := (v, t, 0)) hg0 hT rfl (by omega) hgo
      obtain ⟨p1, p2⟩ := go_pays hR hv0 hT.al hgo
      have hp := p1.place hR hv0
      have hr := p1.rch hR
      have eY : ((s.1.toNat : Nat) : Int) = s.1 := by omega
      have k1 := (erF_ok hR hv0 hT.al).2 _ _ hr
      rw [← eY] at p1 p2
      refine ⟨s.1.toNat, s.2.1, s.2.2, by rw [eY]; exact hga, by omega, ⟨by omega, by omega⟩, k1, hC.least _ (by omega) _ _ p1, hH.least _ (by omega) _ _ p2, fun d a e hF => ?_⟩
      rw [eY] at hF
      have hI := fastE_in hF hg0 ⟨⟨hv0, hv1⟩, by omega, by omega⟩
      rcases hI with ⟨_, _, _, hno⟩ | ⟨h1, _, h3, _⟩
      · exact absurd hr (hno _ _)
      · exact ⟨h1, h3 _ _ hr⟩
    rcases hW with ⟨rfl, _, _⟩ | ⟨_, hT, c, hgo⟩
    · cases hal : aliveB t g.lives v with
      | true => exact .inr (key (v, t, 0) ⟨hv0, hv1, hal⟩ rfl)
      | false =>
        refine .inl ⟨rfl, ?_⟩
        unfold goAns
        rw [if_pos e1, if_neg (by simp), hal]
        simp [goF_nil]
    · exact .inr (key _ hT hgo)
  rw [e1]
  have h5 := HWk.out w4 B4.bel
  have HB4 := hideg B4
  have g0 := B4.c0
  have g1 := B4.c1
  have g2 := B4.c2
  generalize (erF g v t).1 = T at *
  clear hEC hEH hoC hoH hoA hC hH eA hR hg0 e1 HWk hbF B4
  go_wp2_with fail
  refine h5.mono ?_
  rintro r w5 ⟨u5, l5, a5, b5, rfl, ho5, hl5, hW5, hb5⟩
  have B5 := HB4.out.below hb5
  obtain ⟨ho, hc5, rfl, z5⟩ := ivAt_of_owns ho5
  have h6 := HGo.out ho hc5 l5 w5 B5.bel z5 (by omega)
  have hX := HX.out l5 a5 b5 hW5 hl5
  clear h5 g0 g1 g2 HGo HB4 ho5 z5 hW5 HX
  have g0 := B5.c0
  have g1 := B5.c1
  have g2 := B5.c2
  rcases hX with ⟨rfl, hga⟩ | ⟨Y, y, c, hga, hY, ⟨hy0, hy1⟩, i1, i2, i3, hF⟩
  · rw [hga] at h6
    unfold goW at h6
    simp only at h6
    clear hga HCc HHc HAc HF
    go_wp2_with fail
    refine h6.mono ?_
    rintro r w6 ⟨rfl, hb6⟩
    have hbF := (B5.below hb6).bel
    clear h6 hb6 B5 g0 g1 g2 hb5
    go_wp2
    go_ret
    exact ⟨rfl, hbF⟩
  · rw [hga] at h6
    unfold goW at h6
    simp only at h6
    have HFx := hideg hF
    clear hga hF
    go_wp2_with fail
    refine h6.mono ?_
    rintro r w6 ⟨rfl, hb6⟩
    have B6 := B5.below hb6
    have h7 := HF.out (Y : Int) w6 B6.bel
    have hb46 := ptg hb5 hb6
    clear h6 hb6 B5 g0 g1 g2 hb5 HF
    have g0 := B6.c0
    have g1 := B6.c1
    have g2 := B6.c2
    go_wp2_with fail
    refine h7.mono ?_
    rintro r w7 ⟨d7, s7, e7, rfl, hE7, hb7⟩
    obtain ⟨rfl, hd7⟩ := HFx.out d7 s7 e7 hE7
    have hbF := (B6.below hb7).bel
    have hb47 := ptg hb46 hb7
    have xA := HAc.out w7 hb47 Y hY
    have xC := HCc.out w7 hb47 Y hY
    have xH := HHc.out w7 hb47 Y hY
    generalize T.getD Y 0 = ax at *
    generalize LC.getD Y 0 = cx at *
    generalize LH.getD Y 0 = hx at *
    have hYi : (Y : Int) < (g.lives.length : Int) := by omega
    have d1 : decide (ax ≤ y) = true := by simpa using i1
    have d2 : decide (cx ≤ c) = true := by simpa using i2
    have d3 : decide (hx ≤ (l5.length : Int)) = true := by simpa using i3
    have hw8 : IntKind.i64.wrap (y - t) = y - t := wrap_nj _ (by omega) (by omega)
    have d4 : decide (d7 ≤ y - t) = true := by simpa using hd7
    clear h7 hb7 B6 g0 g1 g2 HFx HAc HCc HHc hb46 hb47 hE7
    go_wp2
    go_ret
    exact ⟨rfl, hbF⟩

end Go.Proofs.Ytanbbkoleekmjai
