/-
  The law TurnBack, walked.
-/
import Derived.Test.YtanbbkoleekmjagLawTurned
import Derived.Test.YtanbbkoleekmjagLawELater
import Derived.Test.YtanbbkoleekmjagTnMat2
namespace Go.Proofs.Ytanbbkoleekmjag
open Go.RowKit

theorem place_back {g : Gr} {q d : Int} (h : (revG g).edges.length ≤ 30) (hP : placeE g q d = 0) : placeE (revG g) q (g.hor - 1 - d) = 0 := by
  obtain ⟨h0, h1, h2, h3⟩ := placeE_zero hP
  have k := rev_right (gChk_right h0) h
  have e1 : inR q 0 (((revG g).lives.length : Int) - 1) = true := (inR_iff _ _ _).2 (by simp [revG]; omega)
  have e2 : inR (g.hor - 1 - d) 0 ((revG g).hor - 1) = true := (inR_iff _ _ _).2 (by simp [revG]; omega)
  unfold placeE
  rw [k, e1, e2]; rfl

set_option maxRecDepth 100000 in
set_option maxHeartbeats 1000000 in
theorem turnBack_err (g : Gr) (la ea : Option Addr) (lc ec : Nat) (q d : Int) (w : World) (hG : GAt w la ea g) (hE : (tRevA g).2 ≠ 0 ∨ ((tRevA g).2 = 0 ∧ placeE g q d ≠ 0)) :
    Calls Try.prog 7 #[.agg #[.int .i64 g.hor, .slice la g.lives.length lc, .slice ea g.edges.length ec], .int .i64 q, .int .i64 d] w fun r w' => r = .returned (.bool true) ∧ Below w.heap.size w w' := by
  have B0 := gbx_start w g la ea lc ec 25
  have h0 := turned0_any (w.alloc (.cells #[.int .i64 g.hor, .slice la g.lives.length lc, .slice ea g.edges.length ec] 25))
  have HA := hideg (fun W (hb : Below w.heap.size w W) => tRev_any g la ea lc ec W (hG.below hb))
  have HD := hideg (fun W (hb : Below w.heap.size w W) => eDep_any g la ea lc ec q d W (hG.below hb))
  have HZ := hideg (fun W => early0_any W)
  generalize (tRevA g).2 = n at *
  generalize (tRevA g).1 = G1 at *
  generalize placeE g q d = m at *
  clear hG
  go_enter Try.func7, Try.ntmps7
  go_wp2_with fail
  refine h0.mono ?_
  rintro r w0 ⟨rfl, hb0⟩
  have B0' := B0.below hb0
  clear h0 hb0 B0
  go_wp2_with fail
  refine (HZ.out _).mono ?_
  rintro r w1 ⟨rfl, hb1⟩
  have B1 := B0'.below hb1
  have g0 := B1.c0
  have g1 := B1.c1
  have g2 := B1.c2
  have h1 := HA.out _ B1.bel
  clear hb1 B0' HA HZ
  go_wp2_with fail
  refine h1.mono ?_
  rintro r w2 ⟨la2, ea2, lc2, ec2, rfl, _, hb2⟩
  obtain ⟨w3, hw3⟩ : ∃ x, x = w2.alloc (.cells #[.int .i64 G1.hor, .slice la2 G1.lives.length lc2, .slice ea2 G1.edges.length ec2] 25) := ⟨_, rfl⟩
  have hb3 : Below w2.heap.size w2 w3 := by rw [hw3]; exact gal w2 _
  have B3 := (B1.below hb2).below hb3
  have HW3 := hideg hw3.symm
  have h2 := HD.out _ B3.bel
  clear g0 g1 g2
  have g0 := B3.c0
  have g1 := B3.c1
  have g2 := B3.c2
  rw [hw3] at g0 g1 g2
  clear h1 hb2 hb3 B1 HD hw3
  go_wp2_with fail
  rw [HW3.out]
  refine h2.mono ?_
  rintro r w4 ⟨u4, rfl, ho4, hb4⟩
  have hbE := (B3.below hb4).bel
  clear h2 hb4 B3 g0 g1 g2 HW3 ho4
  rcases hE with hE | ⟨rfl, hE⟩
  · have d1 : (n != 0) = true := by simpa using hE
    clear hE
    go_wp2
    go_ret
    exact ⟨rfl, hbE⟩
  · have d1 : (m != 0) = true := by simpa using hE
    clear hE
    go_wp2
    go_ret
    exact ⟨rfl, hbE⟩

set_option maxRecDepth 100000 in
set_option maxHeartbeats 1000000 in
theorem turnBack_ok (g : Gr) (la ea : Option Addr) (lc ec : Nat) (q d : Int) (w : World) (hG : GAt w la ea g) (hE : (tRevA g).2 = 0) (hP : placeE g q d = 0) :
    Calls Try.prog 7 #[.agg #[.int .i64 g.hor, .slice la g.lives.length lc, .slice ea g.edges.length ec], .int .i64 q, .int .i64 d] w fun r w' => r = .returned (.bool true) ∧ Below w.heap.size w w' := by
  have B0 := gbx_start w g la ea lc ec 25
  have h0 := turned0_any (w.alloc (.cells #[.int .i64 g.hor, .slice la g.lives.length lc, .slice ea g.edges.length ec] 25))
  obtain ⟨c0, c30, cE⟩ := tRevA_ok hE
  obtain ⟨_, hq, hd0, hd1⟩ := placeE_zero hP
  have hR := gChk_right c0
  have hH := hR.hor
  have hn12 := hR.lvs
  have hPb := place_back c30 hP
  have HZ := hideg (fun W => early0_any W)
  have HA := hideg (fun W (hb : Below w.heap.size w W) => tRev_any g la ea lc ec W (hG.below hb))
  have HD := hideg (fun W (hb : Below w.heap.size w W) => eDep_any g la ea lc ec q d W (hG.below hb))
  have HX := hideg (fun W la ea lc ec (h : GAt W la ea (revG g)) => eArr_any (revG g) la ea lc ec q (g.hor - 1 - d) W h)
  have HT := hideg (fun x hx => turn_back c0 c30 (q := q) (d := d) hq.1 x hx)
  rw [tRevA_of c0 c30] at HA
  rw [hP, depA_ok hP, ltF_len] at HD
  rw [hPb, arrA_ok hPb, (erF_len _ _ _).1] at HX
  rw [show (revG g).lives.length = g.lives.length by simp [revG]] at HX HA
  have HLl : Hid ((ltF g q d).length = g.lives.length) := ltF_len g q d
  have HLx : Hid ((erF (revG g) q (g.hor - 1 - d)).1.length = g.lives.length) := by show _ = _; rw [(erF_len _ _ _).1]; simp [revG]
  have HGl : Hid ((revG g).lives.length = g.lives.length) := by show _ = _; simp [revG]
  have e1 : IntKind.i64.wrap (g.hor - 1) = g.hor - 1 := wrap_nj _ (by omega) (by omega)
  have e2 : IntKind.i64.wrap (g.hor - 1 - d) = g.hor - 1 - d := wrap_nj _ (by omega) (by omega)
  generalize ltF g q d = D at *
  generalize (erF (revG g) q (g.hor - 1 - d)).1 = X at *
  generalize revG g = G1 at *
  clear hG hE c0 c30 cE hR hP hPb hq hd0 hd1
  go_enter Try.func7, Try.ntmps7
  go_wp2_with fail
  refine h0.mono ?_
  rintro r w0 ⟨rfl, hb0⟩
  have B0' := B0.below hb0
  clear h0 hb0 B0
  go_wp2_with fail
  refine (HZ.out _).mono ?_
  rintro r w1 ⟨rfl, hb1⟩
  have B1 := B0'.below hb1
  have g0 := B1.c0
  have g1 := B1.c1
  have g2 := B1.c2
  have h1 := HA.out _ B1.bel
  clear hb1 B0' HA HZ
  go_wp2_with fail
  refine h1.mono ?_
  rintro r w2 ⟨la2, ea2, lc2, ec2, rfl, hG2, hb2⟩
  obtain ⟨w3, hw3⟩ : ∃ x, x = w2.alloc (.cells #[.int .i64 G1.hor, .slice la2 g.lives.length lc2, .slice ea2 G1.edges.length ec2] 25) := ⟨_, rfl⟩
  have hb3 : Below w2.heap.size w2 w3 := by rw [hw3]; exact gal w2 _
  have B3 := (B1.below hb2).below hb3
  have B7 : GBx w w3 w2.heap.size G1 la2 ea2 lc2 ec2 := by rw [hw3, ← HGl.out]; exact gbx_new w w2 (B1.below hb2).bel G1 la2 ea2 lc2 ec2 _
  have H7 := hideg (hG2.below hb3)
  have HW3 := hideg hw3.symm
  have h2 := HD.out _ B3.bel
  clear g0 g1 g2
  have g0 := B3.c0
  have g1 := B3.c1
  have g2 := B3.c2
  rw [hw3] at g0 g1 g2
  clear h1 hb2 hb3 B1 HD hw3 hG2
  go_wp2_with fail
  rw [HW3.out]
  refine h2.mono ?_
  rintro r w4 ⟨u4, rfl, ho4, hb4⟩
  have B4 := B3.below hb4
  have B74 := B7.below hb4
  have h3 := HX.out w4 la2 ea2 lc2 ec2 (H7.out.below hb4)
  clear h2 hb4 B3 g0 g1 g2 HW3 H7 B7 HX
  have g0 := B4.c0
  have a0 := B74.c0
  have a1 := B74.c1
  have a2 := B74.c2
  rw [HGl.out] at a1
  go_wp2_with fail
  refine h3.mono ?_
  rintro r w5 ⟨u5, rfl, ho5, hb5⟩
  have B5 := B4.below hb5
  have ho4 := ownsRow_below ho4 hb5
  have hbF := B5.bel
  obtain ⟨b4, c4, rfl, hb4', z4⟩ : ∃ b c, u4 = .slice b D.length c ∧ D.length = g.lives.length ∧ ZsAt w5 b D := by
    obtain ⟨b, c, e, z⟩ := zsAt_of_owns ho4
    exact ⟨b, c, e, HLl.out, z⟩
  obtain ⟨b5, c5, rfl, hb5', z5⟩ : ∃ b c, u5 = .slice b X.length c ∧ X.length = g.lives.length ∧ ZsAt w5 b X := by
    obtain ⟨b, c, e, z⟩ := zsAt_of_owns ho5
    exact ⟨b, c, e, HLx.out, z⟩
  rw [hb4', hb5']
  have Z4 := hideg z4
  have Z5 := hideg z5
  have HB5 := hideg B5
  clear h3 hb5 B4 B74 g0 a0 a1 a2 ho4 ho5 hb4' hb5' z4 z5 B5 e2
  go_wp2_with fail
  go_loopw [52] (fun i wr => ∃ k : Nat, k ≤ g.lives.length ∧ i = .int .i64 k ∧ Below w5.heap.size w5 wr) (fun i _ => g.lives.length - (intOf i).toNat)
  case atStart => exact ⟨0, Nat.zero_le _, rfl, Below.refl _ _⟩
  case round =>
    obtain ⟨k, hk, rfl, hb⟩ := hrel
    by_cases hkl : k < g.lives.length
    · have hki : (k : Int) < (g.lives.length : Int) := by omega
      have hkw : IntKind.i64.wrap ((k : Int) + 1) = (k : Int) + 1 := wrap_nj _ (by omega) (by omega)
      obtain ⟨b2, o2, rfl, hb2, q2⟩ : ∃ b off, b4 = some ⟨b, off, none⟩ ∧ b < wr.heap.size ∧ wr.cell? ⟨b, off + k, none⟩ = some (.int .i64 (D.getD k 0)) := by
        rcases Z4.out.below hb with h0 | ⟨b, off, rfl, hbr, hc⟩
        · have := HLl.out; rw [h0] at this; simp at this; omega
        · exact ⟨b, off, rfl, hbr, hc k (by rw [HLl.out]; exact hkl)⟩
      obtain ⟨b3, o3, rfl, hb3, q3⟩ : ∃ b off, b5 = some ⟨b, off, none⟩ ∧ b < wr.heap.size ∧ wr.cell? ⟨b, off + k, none⟩ = some (.int .i64 (X.getD k 0)) := by
        rcases Z5.out.below hb with h0 | ⟨b, off, rfl, hbr, hc⟩
        · have := HLx.out; rw [h0] at this; simp at this; omega
        · exact ⟨b, off, rfl, hbr, hc k (by rw [HLx.out]; exact hkl)⟩
      have g0 := (HB5.out.below hb).c0
      have hL := HT.out k hkl
      generalize D.getD k 0 = y2 at *
      generalize X.getD k 0 = y3 at *
      have HBd : Hid (∀ N, Below w5.heap.size w5 (wr.drewN N)) := fun N => below_drewN hb N
      rcases hL with ⟨rfl, rfl⟩ | ⟨l1, l2, l3⟩
      · go_wp2_with fail
        go_quiet (fail)
        clear q2 q3
        go_wp2
        go_roundw
        case rel => exact ⟨k + 1, by omega, by go_num, HBd.out _⟩
        case measure => simp [intOf]; omega
      · have d1 : (y2 == -1) = false := by simp; omega
        have d2 : (y3 == 1099511627776) = false := by simp; omega
        have e3 : IntKind.i64.wrap (g.hor - 1 - y3) = g.hor - 1 - y3 := wrap_nj _ (by omega) (by omega)
        have d3 : (y2 != g.hor - 1 - y3) = false := by simp; omega
        have d4 : y2 ≥ 0 := l1
        clear l2 l3
        go_wp2_with fail
        go_quiet (fail)
        clear q2 q3
        go_wp2
        go_roundw
        case rel => exact ⟨k + 1, by omega, by go_num, HBd.out _⟩
        case measure => simp [intOf]; omega
    · have hbE := ptg hbF hb
      have hkn : ¬ ((k : Int) < (g.lives.length : Int)) := by omega
      go_wp2
      go_ret
      exact ⟨rfl, hbE⟩

theorem turnBack_walk (g : Gr) (la ea : Option Addr) (lc ec : Nat) (q d : Int) (w : World) (hG : GAt w la ea g) :
    Calls Try.prog 7 #[.agg #[.int .i64 g.hor, .slice la g.lives.length lc, .slice ea g.edges.length ec], .int .i64 q, .int .i64 d] w fun r w' => r = .returned (.bool true) ∧ Below w.heap.size w w' := by
  by_cases hE : (tRevA g).2 = 0
  · by_cases hP : placeE g q d = 0
    · exact turnBack_ok g la ea lc ec q d w hG hE hP
    · exact turnBack_err g la ea lc ec q d w hG (.inr ⟨hE, hP⟩)
  · exact turnBack_err g la ea lc ec q d w hG (.inl hE)

end Go.Proofs.Ytanbbkoleekmjag
