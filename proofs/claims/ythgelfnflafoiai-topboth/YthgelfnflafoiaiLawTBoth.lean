/-
  The law TopBoth, walked.
-/
import Derived.Test.YthgelfnflafoiaiTSaid
import Derived.Test.YthgelfnflafoiaiRSnap
namespace Go.Proofs.Ythgelfnflafoiai
open Go.RowKit

set_option maxRecDepth 100000 in
set_option maxHeartbeats 1000000 in
theorem topBoth_walk (g : Gr) (la ea : Option Addr) (lc ec : Nat) (v t q d : Int) (w : World) (hG : GAt w la ea g) :
    Calls Try.prog 5 #[.agg #[.int .i64 g.hor, .slice la g.lives.length lc, .slice ea g.edges.length ec], .int .i64 v, .int .i64 t, .int .i64 q, .int .i64 d] w fun r w' => r = .returned (.bool true) ∧ Below w.heap.size w w' := by
  have B0 := gbx_start w g la ea lc ec 25
  have hs := fun W => said_any W
  have HA := hideg (fun W (hb : Below w.heap.size w W) => eArr_any g la ea lc ec v t W (hG.below hb))
  have HD := hideg (fun W (hb : Below w.heap.size w W) => eDep_any g la ea lc ec q d W (hG.below hb))
  have HAl : Hid (∀ (x : Nat) (s : Int), x < g.lives.length → ∀ W, Below w.heap.size w W → Calls Try.prog 16 #[.agg #[.int .i64 g.hor, .slice la g.lives.length lc, .slice ea g.edges.length ec], .int .i64 x, .int .i64 s] W fun r w' => r = .returned (.bool (aliveB s g.lives x)) ∧ Below W.heap.size W w') := fun x s hx W hb => Alive_any g.hor la ea lc g.edges.length ec g.lives x s W (hG.below hb).lv hx hG.nl
  clear hG
  go_enter Try.func5, Try.ntmps5
  go_wp2_with fail
  refine (hs _).mono ?_
  rintro r w1 ⟨rfl, hb1⟩
  have B1 := B0.below hb1
  have h2 := HA.out w1 B1.bel
  clear hs hb1 B0 HA
  have g0 := B1.c0
  have g1 := B1.c1
  have g2 := B1.c2
  go_wp2_with fail
  refine h2.mono ?_
  rintro r w2 ⟨uA, rfl, hoA, hb2⟩
  have B2 := B1.below hb2
  have h3 := HD.out w2 B2.bel
  clear h2 hb2 B1 HD g0 g1 g2
  have g0 := B2.c0
  have g1 := B2.c1
  have g2 := B2.c2
  go_wp2_with fail
  refine h3.mono ?_
  rintro r w3 ⟨uD, rfl, hoD, hb3⟩
  have B3 := B2.below hb3
  have hoA := ownsRow_below hoA hb3
  clear h3 hb3 B2 g0 g1 g2
  have hbF := B3.bel
  by_cases e1 : placeE g v t = 0
  case neg =>
    have d1 : (placeE g v t != 0) = true := by simpa using e1
    generalize placeE g v t = n at *
    clear e1 hoD hoA B3 HAl
    go_wp2
    go_ret
    exact ⟨rfl, hbF⟩
  by_cases e2 : placeE g q d = 0
  case neg =>
    have d1 : (placeE g v t != 0) = false := by simpa using e1
    have d2 : (placeE g q d != 0) = true := by simpa using e2
    generalize placeE g v t = n at *
    generalize placeE g q d = n2 at *
    clear e1 e2 hoD hoA B3 HAl
    go_wp2
    go_ret
    exact ⟨rfl, hbF⟩
  obtain ⟨hg0, ⟨hv0, hv1⟩, ht0, ht1⟩ := placeE_zero e1
  obtain ⟨_, ⟨hq0, hq1⟩, hd0, hd1⟩ := placeE_zero e2
  have hR := gChk_right hg0
  have hhor := hR.hor
  obtain ⟨V, rfl⟩ : ∃ V : Nat, v = (V : Int) := ⟨v.toNat, by omega⟩
  obtain ⟨Q, rfl⟩ : ∃ V : Nat, q = (V : Int) := ⟨q.toNat, by omega⟩
  have hV : V < g.lives.length := by omega
  have hQ : Q < g.lives.length := by omega
  have h3 := HAl.out V t hV
  have h4 := HAl.out Q d hQ
  have eA : arrA g (V : Int) t = (erF g (V : Int) t).1 := by unfold arrA; rw [if_pos e1]
  have eD : depA g (Q : Int) d = ltF g (Q : Int) d := by unfold depA; rw [if_pos e2]
  rw [eA, (erF_len g (V : Int) t).1] at hoA
  rw [eD, ltF_len] at hoD
  rcases hoD.2 with ⟨_, h0⟩ | ⟨gD, cD, curD, rfl, _⟩
  · omega
  rcases hoA.2 with ⟨_, h0⟩ | ⟨gA, cA, curA, rfl, _⟩
  · omega
  rw [e1, e2]
  have g0 := B3.c0
  have g1 := B3.c1
  have g2 := B3.c2
  cases ha : aliveB t g.lives (V : Int) with
  | false =>
    rw [ha] at h3
    clear e1 e2 hoA hoD eA eD hR hg0 HAl ha h4
    go_wp2_with fail
    refine (h3 _ hbF).mono ?_
    rintro r w4 ⟨rfl, hb4⟩
    have hbG := ptg hbF hb4
    clear h3 hb4 g0 g1 g2 B3 hbF
    go_wp2
    go_ret
    exact ⟨rfl, hbG⟩
  | true =>
    cases hb : aliveB d g.lives (Q : Int) with
    | false =>
      rw [ha] at h3
      rw [hb] at h4
      have H4 := hideg h4
      clear e1 e2 hoA hoD eA eD hR hg0 HAl ha hb h4
      go_wp2_with fail
      refine (h3 _ hbF).mono ?_
      rintro r w4 ⟨rfl, hb4⟩
      have B4 := B3.below hb4
      have h5 := H4.out w4 B4.bel
      clear h3 hb4 g0 g1 g2 B3 hbF
      have g0 := B4.c0
      have g1 := B4.c1
      have g2 := B4.c2
      go_wp2_with fail
      refine h5.mono ?_
      rintro r w5 ⟨rfl, hb5⟩
      have hbG := (B4.below hb5).bel
      clear h5 hb5 g0 g1 g2 B4
      go_wp2
      go_ret
      exact ⟨rfl, hbG⟩
    | true =>
      rw [ha] at h3
      rw [hb] at h4
      have H4 := hideg h4
      obtain ⟨hE, hEl⟩ := erF_ok hR (v := (V : Int)) (t := t) (by omega) ha
      obtain ⟨hL, hLl⟩ := ltF_ok hR (q := (Q : Int)) (d := d) (by omega) hb
      have HP1 : Hid (∀ x, x < g.lives.length → (erF g (V : Int) t).1.getD x 0 ≤ (ltF g (Q : Int) d).getD x 0 → (erF g (V : Int) t).1.getD Q 0 ≤ d) := fun x hx hle => by
        rcases hE.is x hx with k | k
        · rcases hL.is x hx with j | j
          · omega
          · have := alive_hor hR j.src; omega
        · have hp := k.place hR (by omega)
          rcases hL.is x hx with j | j
          · omega
          · have := hEl _ _ ((k.waits hR hle j.src).trans j)
            simpa using this
      have HP2 : Hid ((erF g (V : Int) t).1.getD Q 0 ≤ d → (erF g (V : Int) t).1.getD V 0 ≤ (ltF g (Q : Int) d).getD V 0 ∧ (erF g (V : Int) t).1.getD Q 0 ≤ (ltF g (Q : Int) d).getD Q 0) := fun hle => by
        have k : Rch g (V : Int) t (Q : Int) d := by
          rcases hE.is Q hQ with k | k
          · omega
          · exact k.waits hR hle hb
        have j1 := hLl _ _ (by omega) k
        have j2 := hLl _ _ (by omega) (Rch.base hb)
        have j3 := hE.at0
        simp only [Int.toNat_natCast] at j1 j2 j3
        exact ⟨by omega, by omega⟩
      have lD := (World.ownsRow.lt hoD _ rfl).2
      have lA := (World.ownsRow.lt hoA _ rfl).2
      have HDc := hideg (fun W (hb : Below w3.heap.size w3 W) (k : Nat) (hk : k < g.lives.length) => (hb.cell (p := ⟨gD, k, none⟩) lD).trans (Zo.cell hoD hk))
      have HAc := hideg (fun W (hb : Below w3.heap.size w3 W) (k : Nat) (hk : k < g.lives.length) => (hb.cell (p := ⟨gA, k, none⟩) lA).trans (Zo.cell hoA hk))
      have hVi : (V : Int) < (g.lives.length : Int) := by omega
      have hQi : (Q : Int) < (g.lives.length : Int) := by omega
      have hlen := hR.lvs
      generalize (erF g (V : Int) t).1 = TA at *
      generalize ltF g (Q : Int) d = TD at *
      clear e1 e2 hoA hoD eA eD hR hg0 HAl ha hb h4 hE hEl hL hLl
      go_wp2_with fail
      refine (h3 _ hbF).mono ?_
      rintro r w4 ⟨rfl, hb4⟩
      have B4 := B3.below hb4
      have h5 := H4.out w4 B4.bel
      clear h3 g0 g1 g2 B3 hbF
      have g0 := B4.c0
      have g1 := B4.c1
      have g2 := B4.c2
      go_wp2_with fail
      refine h5.mono ?_
      rintro r w5 ⟨rfl, hb5⟩
      have B5 := B4.below hb5
      have hb35 := ptg hb4 hb5
      have xQ := HAc.out w5 hb35 Q hQ
      clear h5 hb4 hb5 g0 g1 g2 B4
      have HB5 := hideg B5
      have HAc5 := hideg (fun W (hb : Below w5.heap.size w5 W) => HAc.out W (ptg hb35 hb))
      have HDc5 := hideg (fun W (hb : Below w5.heap.size w5 W) => HDc.out W (ptg hb35 hb))
      clear HAc HDc hb35 B5 H4
      obtain ⟨cb, hcb⟩ : ∃ cb, cb = decide (TA.getD Q 0 ≤ d) := ⟨_, rfl⟩
      have HCB := hideg hcb
      obtain ⟨aq, haq⟩ : ∃ aq, aq = TA.getD Q 0 := ⟨_, rfl⟩
      rw [← haq] at xQ hcb
      have hcb' : decide (aq ≤ d) = cb := hcb.symm
      have HAQ := hideg haq
      clear haq hcb
      go_wp2_with fail
      clear xQ
      go_loopw [61] (fun i wr => ∃ k : Nat, k ≤ g.lives.length ∧ i = .int .i64 k ∧ Below w5.heap.size w5 wr) (fun i _ => g.lives.length - (intOf i).toNat)
      case atStart => exact ⟨0, Nat.zero_le _, rfl, Below.refl _ _⟩
      case round =>
        obtain ⟨k, hk, rfl, hb⟩ := hrel
        have HBk : Hid (∀ N, Below w5.heap.size w5 (wr.drewN N)) := fun N => below_drewN hb N
        by_cases hkl : k < g.lives.length
        · have hki : (k : Int) < (g.lives.length : Int) := by omega
          have hkw : IntKind.i64.wrap ((k : Int) + 1) = (k : Int) + 1 := wrap_nj _ (by omega) (by omega)
          have xA := HAc5.out wr hb k hkl
          have xD := HDc5.out wr hb k hkl
          have hP := HP1.out k hkl
          generalize TA.getD k 0 = ak at *
          generalize TD.getD k 0 = dk at *
          by_cases hle : ak ≤ dk
          · have dle : decide (ak ≤ dk) = true := by simpa using hle
            have hcbt : cb = true := by rw [HCB.out]; simpa using hP hle
            subst hcbt
            clear hP hb
            go_wp2_with fail
            go_quiet (fail)
            clear xA xD
            go_wp2
            go_roundw
            case rel => exact ⟨k + 1, by omega, by go_num, HBk.out _⟩
            case measure => simp [intOf]; omega
          · have dle : decide (ak ≤ dk) = false := by simpa using hle
            clear hP hb
            go_wp2_with fail
            go_quiet (fail)
            clear xA xD
            go_wp2
            go_roundw
            case rel => exact ⟨k + 1, by omega, by go_num, HBk.out _⟩
            case measure => simp [intOf]; omega
        · have hbF : Hid (∀ N, Below w.heap.size w (wr.drewN N)) := fun N => (HB5.out.below (HBk.out N)).bel
          cases hc : cb with
          | false =>
            subst hc
            clear hb HBk
            go_wp2_with fail
            go_quiet (fail)
            go_wp2
            go_ret
            exact ⟨rfl, hbF.out _⟩
          | true =>
            subst hc
            have hP := HP2.out (by have := HCB.out; simpa using this.symm)
            have x1 := HAc5.out wr hb V hV
            have x2 := HDc5.out wr hb V hV
            have x3 := HAc5.out wr hb Q hQ
            have x4 := HDc5.out wr hb Q hQ
            clear HAc5 HDc5 HP1 HP2 HCB HAQ
            obtain ⟨y1, hy1⟩ : ∃ y, y = TA.getD V 0 := ⟨_, rfl⟩
            obtain ⟨y2, hy2⟩ : ∃ y, y = TD.getD V 0 := ⟨_, rfl⟩
            obtain ⟨y3, hy3⟩ : ∃ y, y = TA.getD Q 0 := ⟨_, rfl⟩
            obtain ⟨y4, hy4⟩ : ∃ y, y = TD.getD Q 0 := ⟨_, rfl⟩
            rw [← hy1] at x1 hP
            rw [← hy2] at x2 hP
            rw [← hy3] at x3 hP
            rw [← hy4] at x4 hP
            have d1 : decide (y1 ≤ y2) = true := by simpa using hP.1
            have d2 : decide (y3 ≤ y4) = true := by simpa using hP.2
            clear hb HBk hP hy1 hy2 hy3 hy4
            go_wp2_with fail
            go_quiet (fail)
            clear x1 x2 x3 x4
            go_wp2
            go_ret
            exact ⟨rfl, hbF.out _⟩

end Go.Proofs.Ythgelfnflafoiai
