/-
  The law TopWays, walked.
-/
import Derived.Test.YtanbbkoleekmjaiTSaid
import Derived.Test.YtanbbkoleekmjaiChW
import Derived.Test.YtanbbkoleekmjaiJpC
namespace Go.Proofs.Ytanbbkoleekmjai
open Go.RowKit

set_option maxRecDepth 100000 in
set_option maxHeartbeats 1000000 in
theorem topWays_walk (g : Gr) (la ea : Option Addr) (lc ec : Nat) (v t q : Int) (w : World) (hG : GAt w la ea g) :
    Calls Try.prog 4 #[.agg #[.int .i64 g.hor, .slice la g.lives.length lc, .slice ea g.edges.length ec], .int .i64 v, .int .i64 t, .int .i64 q] w fun r w' => r = .returned (.bool true) ∧ Below w.heap.size w w' := by
  have B0 := gbx_start w g la ea lc ec 25
  have hs := fun W => said_any W
  have HA := hideg (fun W (hb : Below w.heap.size w W) => eArr_any g la ea lc ec v t W (hG.below hb))
  have HC := hideg (fun W (hb : Below w.heap.size w W) => cCosts_any g la ea lc ec v t W (hG.below hb))
  have HW := hideg (fun W (hb : Below w.heap.size w W) => eWay_any g la ea lc ec v t q W (hG.below hb))
  have HV := hideg (fun W (hb : Below w.heap.size w W) => cWay_any g la ea lc ec v t q W (hG.below hb))
  have HGo := hideg (fun ho hc l W (hb : Below w.heap.size w W) (hI : IvAt W ho l) (hl : l.length ≤ 500) => jGo_any g la ea lc ec v t ho hc l W (hG.below hb) hI (by omega))
  have HNl := hideg hG.nl
  clear hG
  go_enter Try.func4, Try.ntmps4
  go_wp2_with fail
  refine (hs _).mono ?_
  rintro r w1 ⟨rfl, hb1⟩
  have B1 := B0.below hb1
  have h2 := HA.out w1 B1.bel
  clear hs hb1 B0 HA
  have g0 := B1.c0
  have g1 := B1.c1
  have g2 := B1.c2
  go_wp2_with fail
  refine h2.mono ?_
  rintro r w2 ⟨uA, rfl, hoA, hb2⟩
  have B2 := B1.below hb2
  have h3 := HC.out w2 B2.bel
  clear h2 hb2 B1 HC g0 g1 g2
  have g0 := B2.c0
  have g1 := B2.c1
  have g2 := B2.c2
  go_wp2_with fail
  refine h3.mono ?_
  rintro r w3 ⟨uC, LC, rfl, hEC, hoC, hb3⟩
  have B3 := B2.below hb3
  have hoA := ownsRow_below hoA hb3
  clear h3 hb3 B2 g0 g1 g2
  have hbF := B3.bel
  by_cases e1 : placeE g v t = 0
  case neg =>
    have d1 : (placeE g v t != 0) = true := by simpa using e1
    generalize placeE g v t = n at *
    clear e1 hEC hoC hoA B3 HW HV HGo
    go_wp2
    go_ret
    exact ⟨rfl, hbF⟩
  obtain ⟨hg0, ⟨hv0, hv1⟩, ht0, ht1⟩ := placeE_zero e1
  have hR := gChk_right hg0
  have hlen := hR.lvs
  have hhor := hR.hor
  have hC := leastE_ok hEC e1
  have eA : arrA g v t = (erF g v t).1 := by unfold arrA; rw [if_pos e1]
  rw [eA, (erF_len g v t).1] at hoA
  rw [hC.len] at hoC
  have hn0 : 0 < g.lives.length := by omega
  rcases hoC.2 with ⟨_, h0⟩ | ⟨gC, cC, curC, rfl, _⟩
  · omega
  rcases hoA.2 with ⟨_, h0⟩ | ⟨gA, cA, curA, rfl, _⟩
  · omega
  have hq3 : q < 0 ∨ (¬ q < 0 ∧ (g.lives.length : Int) ≤ q) ∨ (¬ q < 0 ∧ ¬ (g.lives.length : Int) ≤ q) := by omega
  rcases hq3 with q1 | ⟨q1, q2⟩ | ⟨q1, q2⟩
  · have dq : decide (q < 0) = true := by simpa using q1
    rw [e1]
    clear hEC hoC hoA B3 HW HV HGo hC eA hR hg0 e1
    go_wp2
    go_ret
    exact ⟨rfl, hbF⟩
  · have dq : decide (q < 0) = false := by simpa using q1
    have dq2 : decide ((g.lives.length : Int) ≤ q) = true := by simpa using q2
    rw [e1]
    clear hEC hoC hoA B3 HW HV HGo hC eA hR hg0 e1
    go_wp2
    go_ret
    exact ⟨rfl, hbF⟩
  obtain ⟨Y, rfl⟩ : ∃ Y : Nat, q = (Y : Int) := ⟨q.toNat, by omega⟩
  have hY : Y < g.lives.length := by omega
  have hYi : (Y : Int) < (g.lives.length : Int) := by omega
  have lC := (World.ownsRow.lt hoC _ rfl).2
  have lA := (World.ownsRow.lt hoA _ rfl).2
  have HCc := hideg (fun W (hb : Below w3.heap.size w3 W) => (hb.cell (p := ⟨gC, Y, none⟩) lC).trans (Zo.cell hoC hY))
  have HAc := hideg (fun W (hb : Below w3.heap.size w3 W) => (hb.cell (p := ⟨gA, Y, none⟩) lA).trans (Zo.cell hoA hY))
  have HX : Hid (((erF g v t).1.getD Y 0 = 1099511627776 ∧ LC.getD Y 0 = 1099511627776 ∧ (∀ e l, WayIs g v t (Y : Int) e l → e = 4 ∧ l = []) ∧ (∀ e l, CWayIs g v t (Y : Int) e l → e = 4 ∧ l = [])) ∨
      ((erF g v t).1.getD Y 0 ≠ 1099511627776 ∧ (∀ e l, WayIs g v t (Y : Int) e l → e = 0 ∧ l.length ≤ 200 ∧ ∃ c, goAns g v t l = ((Y : Int), (erF g v t).1.getD Y 0, c, 0)) ∧ (∀ e l, CWayIs g v t (Y : Int) e l → e = 0 ∧ l.length ≤ 200 ∧ ∃ τ, goAns g v t l = ((Y : Int), τ, LC.getD Y 0, 0)))) := by
    obtain ⟨i1, i2, i3⟩ := inf_same hR (prCost_ok hR) hv0 hC hY
    by_cases hi : (erF g v t).1.getD Y 0 = 1099511627776
    · refine .inl ⟨hi, i1.2 hi, fun e l h => ?_, fun e l h => ?_⟩
      · rcases h with ⟨h, _⟩ | ⟨_, _, h3, h4⟩ | ⟨_, _, h3, _⟩
        · exact absurd e1 h
        · exact ⟨h3, h4⟩
        · simp only [Int.toNat_natCast] at h3; exact absurd hi h3
      · rcases h with ⟨h, _⟩ | ⟨_, _, h3, h4⟩ | ⟨_, _, _, _, τ, P, _, _, ⟨τ', hP⟩, _⟩
        · exact absurd e1 h
        · exact ⟨h3, h4⟩
        · have h5 := hC.least Y hY _ _ hP
          have h6 := hP.range hR (prCost_ok hR) hv0
          have := i1.2 hi
          omega
    · obtain ⟨hrch, hal⟩ := i3 hi
      have hcn : LC.getD Y 0 ≠ 1099511627776 := fun h => hi (i1.1 h)
      refine .inr ⟨hi, fun e l h => ?_, fun e l h => ?_⟩
      · rcases h with ⟨h, _⟩ | ⟨_, h, _⟩ | ⟨_, _, _, rfl, hW, _⟩
        · exact absurd e1 h
        · rcases h with h | h
          · exact absurd ⟨by omega, by omega⟩ h
          · simp only [Int.toNat_natCast] at h; exact absurd h hi
        · have hE := (erF_ok hR hv0 hal).1
          have hl : l.length ≤ 200 := by
            have h1 := hW.len
            rw [hE.at0] at h1
            simp only [Int.toNat_natCast] at h1
            have h2 := (er_le hR (t := t) hv0 hY).2.2 hi
            omega
          obtain ⟨c, hgo⟩ := hW.go 0
          rw [hE.at0] at hgo
          simp only [Int.toNat_natCast] at hgo
          exact ⟨rfl, hl, c, goAns_ok (s := (v, t, 0)) hg0 ⟨hv0, hv1, hal⟩ rfl (by omega) hgo⟩
      · rcases h with ⟨h, _⟩ | ⟨_, h, _⟩ | ⟨_, _, rfl, hl, τ, P, _, hgo, ⟨τ', hP⟩, hle⟩
        · exact absurd e1 h
        · rcases h with h | h
          · exact absurd ⟨by omega, by omega⟩ h
          · obtain ⟨p, hp⟩ := hrch.pay hR prCost hv0
            exact absurd hp (h _ _)
        · have h5 : LC.getD Y 0 = P := by
            have h6 := hC.least Y hY _ _ hP
            rcases hC.is Y hY with k | ⟨τ'', k⟩
            · exact absurd k hcn
            · have := hle _ _ k; omega
          exact ⟨rfl, by omega, τ, by rw [h5]; exact goAns_ok (s := (v, t, 0)) hg0 ⟨hv0, hv1, hal⟩ rfl (by omega) hgo⟩
  have dq : decide ((Y : Int) < 0) = false := by simp
  have dq2 : decide ((g.lives.length : Int) ≤ (Y : Int)) = false := by simpa using q2
  rw [e1]
  generalize (erF g v t).1.getD Y 0 = ax at *
  generalize LC.getD Y 0 = cx at *
  have h4 := HW.out w3 B3.bel
  have HB3 := hideg B3
  have g0 := B3.c0
  have g1 := B3.c1
  have g2 := B3.c2
  clear hEC hoC hoA hC eA hR hg0 e1 HW hbF B3 q1 q2
  go_wp2_with fail
  refine h4.mono ?_
  rintro r w4 ⟨u4, e4, l4, rfl, hI4, ho4, hb4⟩
  have B4 := HB3.out.below hb4
  have h5 := HV.out w4 B4.bel
  clear h4 g0 g1 g2 HV HB3
  have g0 := B4.c0
  have g1 := B4.c1
  have g2 := B4.c2
  go_wp2_with fail
  refine h5.mono ?_
  rintro r w5 ⟨u5, e5, l5, rfl, hI5, ho5, hb5⟩
  have B5 := B4.below hb5
  have hb35 := ptg hb4 hb5
  have ho4 := ownsRow_below ho4 hb5
  have xA := HAc.out w5 hb35
  have xC := HCc.out w5 hb35
  have hbF := B5.bel
  clear h5 hb4 hb5 B4 g0 g1 g2
  rcases HX.out with ⟨rfl, rfl, k1, k2⟩ | ⟨hax, k1, k2⟩
  · obtain ⟨rfl, rfl⟩ := k1 e4 l4 hI4
    obtain ⟨rfl, rfl⟩ := k2 e5 l5 hI5
    clear HX k1 k2 hI4 hI5 ho4 ho5 B5 HAc HCc HGo
    go_wp2
    go_ret
    exact ⟨rfl, hbF⟩
  · obtain ⟨rfl, hl4, c4, hga4⟩ := k1 e4 l4 hI4
    obtain ⟨rfl, hl5, t5, hga5⟩ := k2 e5 l5 hI5
    obtain ⟨a4, ca4, rfl, z4⟩ := ivAt_of_owns ho4
    obtain ⟨a5, ca5, rfl, z5⟩ := ivAt_of_owns ho5
    have h6 := HGo.out a4 ca4 l4 w5 B5.bel z4 (by omega)
    have H7 := hideg (fun W (hb : Below w5.heap.size w5 W) => HGo.out a5 ca5 l5 W (B5.below hb).bel (z5.below hb) (by omega))
    rw [hga4] at h6
    rw [hga5] at H7
    unfold goW at h6 H7
    simp only at h6 H7
    have dax : (ax == 1099511627776) = false := by simpa using hax
    have dY : ((Y : Int) == (Y : Int)) = true := by simp
    have dA : (ax == ax) = true := by simp
    have dC : (cx == cx) = true := by simp
    have g0 := B5.c0
    have g1 := B5.c1
    have g2 := B5.c2
    clear HX k1 k2 hI4 hI5 ho4 ho5 z4 z5 hga4 hga5 HGo
    go_wp2_with fail
    refine h6.mono ?_
    rintro r w6 ⟨rfl, hb6⟩
    have B6 := B5.below hb6
    have h7 := H7.out w6 hb6
    have hb36 := ptg hb35 hb6
    clear h6 hb6 B5 g0 g1 g2 H7 xA xC hb35 hbF
    have g0 := B6.c0
    have g1 := B6.c1
    have g2 := B6.c2
    go_wp2_with fail
    refine h7.mono ?_
    rintro r w7 ⟨rfl, hb7⟩
    have hbF := (B6.below hb7).bel
    have xA := HAc.out w7 (ptg hb36 hb7)
    have xC := HCc.out w7 (ptg hb36 hb7)
    clear h7 hb7 B6 g0 g1 g2 HAc HCc hb36
    go_wp2
    go_ret
    exact ⟨rfl, hbF⟩

end Go.Proofs.Ytanbbkoleekmjai
