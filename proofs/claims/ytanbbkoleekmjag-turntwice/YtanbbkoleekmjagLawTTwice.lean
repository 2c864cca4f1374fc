/-
  The law TurnTwice, walked.
-/
import Derived.Test.YtanbbkoleekmjagLawTurned
import Derived.Test.YtanbbkoleekmjagChE
import Derived.Test.YtanbbkoleekmjagErC
import Derived.Test.YtanbbkoleekmjagEqI
import Derived.Test.YtanbbkoleekmjagEq
import Derived.Test.YtanbbkoleekmjagTnMat2
namespace Go.Proofs.Ytanbbkoleekmjag
open Go.RowKit

theorem arr_alike {g g' : Gr} (h : Alike g g') (v t : Int) : arrA g' v t = arrA g v t := by
  unfold arrA
  rw [h.place]
  by_cases e : placeE g v t = 0
  · rw [if_pos e, if_pos e, h.er (placeE_zero e).2.1.1]
  · rw [if_neg e, if_neg e]
theorem cost_alike {g g' : Gr} (h : Alike g g') {v t : Int} {L L' : List Int} (k : LeastE g prCost v t L) (k' : LeastE g' prCost v t L') : L = L' := by
  unfold LeastE at k k'
  rw [h.place] at k'
  rcases k with ⟨k1, rfl⟩ | ⟨k1, k2⟩ <;> rcases k' with ⟨j1, rfl⟩ | ⟨j1, j2⟩
  · rfl
  · exact absurd j1 k1
  · exact absurd k1 j1
  · exact least_unique (gChk_right h.ok') (prCost_ok (gChk_right h.ok')) (placeE_zero k1).2.1.1 (h.least k2) j2

set_option maxRecDepth 100000 in
set_option maxHeartbeats 1000000 in
theorem turnTwice_err (g : Gr) (la ea : Option Addr) (lc ec : Nat) (v t : Int) (w : World) (hG : GAt w la ea g) (hE : ¬ (tRevA g).2 = 0) :
    Calls Try.prog 6 #[.agg #[.int .i64 g.hor, .slice la g.lives.length lc, .slice ea g.edges.length ec], .int .i64 v, .int .i64 t] w fun r w' => r = .returned (.bool true) ∧ Below w.heap.size w w' := by
  have B0 := gbx_start w g la ea lc ec 25
  have h0 := turned0_any (w.alloc (.cells #[.int .i64 g.hor, .slice la g.lives.length lc, .slice ea g.edges.length ec] 25))
  have HA := hideg (fun W (hb : Below w.heap.size w W) => tRev_any g la ea lc ec W (hG.below hb))
  rw [tRevA_err hE] at HA
  have d1 : ((tRevA g).2 != 0) = true := by simpa using hE
  generalize (tRevA g).2 = n at *
  simp only [List.length_nil] at HA
  clear hG hE
  go_enter Try.func6, Try.ntmps6
  go_wp2_with fail
  refine h0.mono ?_
  rintro r w1 ⟨rfl, hb1⟩
  have B1 := B0.below hb1
  have g0 := B1.c0
  have g1 := B1.c1
  have g2 := B1.c2
  have h1 := HA.out _ B1.bel
  clear h0 hb1 B0 HA
  go_wp2_with fail
  refine h1.mono ?_
  rintro r w2 ⟨la2, ea2, lc2, ec2, rfl, _, hb2⟩
  have hbE := ptg (B1.below hb2).bel (gal w2 (.cells #[.int .i64 0, .slice la2 0 lc2, .slice ea2 0 ec2] 25))
  clear h1 hb2 B1 g0 g1 g2
  go_wp2
  go_ret
  exact ⟨rfl, hbE⟩

set_option maxRecDepth 100000 in
set_option maxHeartbeats 1000000 in
theorem turnTwice_ok (g : Gr) (la ea : Option Addr) (lc ec : Nat) (v t : Int) (w : World) (hG : GAt w la ea g) (hE : (tRevA g).2 = 0) :
    Calls Try.prog 6 #[.agg #[.int .i64 g.hor, .slice la g.lives.length lc, .slice ea g.edges.length ec], .int .i64 v, .int .i64 t] w fun r w' => r = .returned (.bool true) ∧ Below w.heap.size w w' := by
  have B0 := gbx_start w g la ea lc ec 25
  have h0 := turned0_any (w.alloc (.cells #[.int .i64 g.hor, .slice la g.lives.length lc, .slice ea g.edges.length ec] 25))
  obtain ⟨c0, c30, cE⟩ := tRevA_ok hE
  have hR := gChk_right c0
  have hA := twice_alike c0 c30
  have k1 := rev_right hR c30
  have k2 := hA.ok'
  have hT1 := tRevA_of c0 c30
  have hT2 := tRevA_of k1 (rev_few c30)
  have HA := hideg (fun W (hb : Below w.heap.size w W) => tRev_any g la ea lc ec W (hG.below hb))
  have HB := hideg (fun W la ea lc ec (h : GAt W la ea (revG g)) => tRev_any (revG g) la ea lc ec W h)
  have HC1 := hideg (fun W la ea lc ec (h : GAt W la ea (revG g)) => gCheck_any (revG g) la ea lc ec W h)
  have HC2 := hideg (fun W la ea lc ec (h : GAt W la ea (revG (revG g))) => gCheck_any (revG (revG g)) la ea lc ec W h)
  have HX := hideg (fun W (hb : Below w.heap.size w W) => eArr_any g la ea lc ec v t W (hG.below hb))
  have HY := hideg (fun W la ea lc ec (h : GAt W la ea (revG (revG g))) => eArr_any (revG (revG g)) la ea lc ec v t W h)
  have HP := hideg (fun W (hb : Below w.heap.size w W) => cCosts_any g la ea lc ec v t W (hG.below hb))
  have HQ := hideg (fun W la ea lc ec (h : GAt W la ea (revG (revG g))) => cCosts_any (revG (revG g)) la ea lc ec v t W h)
  have HCa := hideg (fun L L' => cost_alike hA (v := v) (t := t) (L := L) (L' := L'))
  have HLv : Hid (∀ W la' lb, GAt W la' lb (revG (revG g)) → Below w.heap.size w W → ∀ cb, Calls Try.prog 22 #[.slice la' (revG (revG g)).lives.length cb, .slice la g.lives.length lc] W fun e w' => e = .returned (.bool true) ∧ Below W.heap.size W w') := by
    intro W la' lb h hb cb
    have h1 := Equal_any la' la cb lc (revG (revG g)).lives g.lives W h.lv (hG.below hb).lv (by rw [rev_lives]; have := hR.lvs; omega)
    rw [show decide ((revG (revG g)).lives = g.lives) = true from by rw [rev_lives]; simp] at h1
    exact h1
  rw [hT1] at HA
  rw [hT2] at HB
  rw [k1] at HC1
  rw [k2] at HC2
  rw [hA.place, arr_alike hA] at HY
  rw [hA.place] at HQ
  have HLe : Hid ((arrA g v t).length ≤ 9223372036854775807) := by
    show _ ≤ _
    have := hR.lvs
    unfold arrA
    split
    · rw [(erF_len _ _ _).1]; omega
    · simp
  have HLc : Hid (∀ L, LeastE g prCost v t L → L.length ≤ 9223372036854775807) := by
    intro L h
    have := hR.lvs
    rcases h with ⟨_, rfl⟩ | ⟨_, h⟩
    · simp
    · rw [h.len]; omega
  generalize placeE g v t = e at *
  generalize arrA g v t = X at *
  generalize revG (revG g) = G2 at *
  generalize revG g = G1 at *
  clear hG hE c0 c30 cE hR hA k1 k2 hT1 hT2
  go_enter Try.func6, Try.ntmps6
  go_wp2_with fail
  refine h0.mono ?_
  rintro r w1 ⟨rfl, hb1⟩
  have B1 := B0.below hb1
  have g0 := B1.c0
  have g1 := B1.c1
  have g2 := B1.c2
  have h1 := HA.out _ B1.bel
  clear h0 hb1 B0 HA
  go_wp2_with fail
  refine h1.mono ?_
  rintro r w2 ⟨la2, ea2, lc2, ec2, rfl, hG2, hb2⟩
  obtain ⟨w3, hw3⟩ : ∃ x, x = w2.alloc (.cells #[.int .i64 G1.hor, .slice la2 G1.lives.length lc2, .slice ea2 G1.edges.length ec2] 25) := ⟨_, rfl⟩
  have hb3 : Below w2.heap.size w2 w3 := by rw [hw3]; exact gal w2 _
  have Bg := (B1.below hb2).below hb3
  have B7 : GBx w w3 w2.heap.size G1 la2 ea2 lc2 ec2 := by rw [hw3]; exact gbx_new w w2 (B1.below hb2).bel G1 la2 ea2 lc2 ec2 _
  have H7 := hideg (hG2.below hb3)
  have HW3 := hideg hw3.symm
  have h2 := HB.out w3 la2 ea2 lc2 ec2 H7.out
  clear h1 hb2 hb3 hG2 B1 g0 g1 g2 HB hw3
  go_wp2_with fail
  rw [HW3.out]
  refine h2.mono ?_
  rintro r w4 ⟨la4, ea4, lc4, ec4, rfl, hG4, hb4⟩
  obtain ⟨w5, hw5⟩ : ∃ x, x = w4.alloc (.cells #[.int .i64 G2.hor, .slice la4 G2.lives.length lc4, .slice ea4 G2.edges.length ec4] 25) := ⟨_, rfl⟩
  have hb5 : Below w4.heap.size w4 w5 := by rw [hw5]; exact gal w4 _
  have Bg5 := (Bg.below hb4).below hb5
  have B75 := (B7.below hb4).below hb5
  have B9 : GBx w w5 w4.heap.size G2 la4 ea4 lc4 ec4 := by rw [hw5]; exact gbx_new w w4 (Bg.below hb4).bel G2 la4 ea4 lc4 ec4 _
  have H75 := hideg ((H7.out.below hb4).below hb5)
  have H9 := hideg (hG4.below hb5)
  have HW5 := hideg hw5.symm
  have h3 := HC1.out w5 la2 ea2 lc2 ec2 H75.out
  have a0 := B75.c0
  have a1 := B75.c1
  have a2 := B75.c2
  rw [hw5] at a0 a1 a2
  clear h2 hb4 hb5 hG4 Bg B7 H7 HW3 HC1 hw5
  go_wp2_with fail
  rw [HW5.out]
  refine h3.mono ?_
  rintro r w6 ⟨rfl, hb6⟩
  have Bg6 := Bg5.below hb6
  have B96 := B9.below hb6
  have H96 := hideg (H9.out.below hb6)
  have h4 := HC2.out w6 la4 ea4 lc4 ec4 H96.out
  clear a0 a1 a2 h3 hb6 Bg5 B75 B9 H75 H9 HW5 HC2
  have a0 := B96.c0
  have a1 := B96.c1
  have a2 := B96.c2
  go_wp2_with fail
  refine h4.mono ?_
  rintro r w7 ⟨rfl, hb7⟩
  have Bg7 := Bg6.below hb7
  have B97 := B96.below hb7
  have H97 := hideg (H96.out.below hb7)
  have h5 := HLv.out w7 la4 ea4 H97.out Bg7.bel lc4
  clear a0 a1 a2 h4 hb7 Bg6 B96 H96 HLv
  have a1 := B97.c1
  have g1 := Bg7.c1
  go_wp2_with fail
  refine h5.mono ?_
  rintro r w8 ⟨rfl, hb8⟩
  have Bg8 := Bg7.below hb8
  have B98 := B97.below hb8
  have H98 := hideg (H97.out.below hb8)
  have h6 := HX.out w8 Bg8.bel
  clear a1 g1 h5 hb8 Bg7 B97 H97 HX
  have g0 := Bg8.c0
  have g1 := Bg8.c1
  have g2 := Bg8.c2
  go_wp2_with fail
  refine h6.mono ?_
  rintro r w9 ⟨u9, rfl, ho9, hb9⟩
  have Bg9 := Bg8.below hb9
  have B99 := B98.below hb9
  have H99 := hideg (H98.out.below hb9)
  have h7 := HY.out w9 la4 ea4 lc4 ec4 H99.out
  clear g0 g1 g2 h6 hb9 Bg8 B98 H98 HY
  have a0 := B99.c0
  have a1 := B99.c1
  have a2 := B99.c2
  go_wp2_with fail
  refine h7.mono ?_
  rintro r w10 ⟨u10, rfl, ho10, hb10⟩
  have Bg10 := Bg9.below hb10
  have B910 := B99.below hb10
  have H910 := hideg (H99.out.below hb10)
  have ho9 := ownsRow_below ho9 hb10
  have h8 := HP.out w10 Bg10.bel
  clear a0 a1 a2 h7 hb10 Bg9 B99 H99 HP
  have g0 := Bg10.c0
  have g1 := Bg10.c1
  have g2 := Bg10.c2
  go_wp2_with fail
  refine h8.mono ?_
  rintro r w11 ⟨u11, L, rfl, hL, ho11, hb11⟩
  have Bg11 := Bg10.below hb11
  have B911 := B910.below hb11
  have H911 := hideg (H910.out.below hb11)
  have ho9 := ownsRow_below ho9 hb11
  have ho10 := ownsRow_below ho10 hb11
  have h9 := HQ.out w11 la4 ea4 lc4 ec4 H911.out
  clear g0 g1 g2 h8 hb11 Bg10 B910 H910 HQ
  have a0 := B911.c0
  have a1 := B911.c1
  have a2 := B911.c2
  go_wp2_with fail
  refine h9.mono ?_
  rintro r w12 ⟨u12, L', rfl, hL', ho12, hb12⟩
  obtain rfl := HCa.out L L' hL hL'
  have hLl := HLc.out L hL
  have hXl := HLe.out
  have ho9 := ownsRow_below ho9 hb12
  have ho10 := ownsRow_below ho10 hb12
  have ho11 := ownsRow_below ho11 hb12
  have hbF := (Bg11.below hb12).bel
  obtain ⟨z9, c9, rfl, s9⟩ := zsAt_of_owns ho9
  obtain ⟨z10, c10, rfl, s10⟩ := zsAt_of_owns ho10
  obtain ⟨z11, c11, rfl, s11⟩ := zsAt_of_owns ho11
  obtain ⟨z12, c12, rfl, s12⟩ := zsAt_of_owns ho12
  have hE1 := EqualI_any z9 z10 c9 c10 X X w12 s9 s10 hXl
  have HE2 := hideg (fun W (hb : Below w12.heap.size w12 W) => EqualI_any z11 z12 c11 c12 L L W (s11.below hb) (s12.below hb) hLl)
  rw [show decide (X = X) = true from by simp] at hE1
  rw [show decide (L = L) = true from by simp] at HE2
  clear a0 a1 a2 h9 hb12 Bg11 B911 H911 hL hL' HLc HLe HCa ho9 ho10 ho11 ho12 s9 s10 s11 s12 hLl hXl
  go_wp2_with fail
  refine hE1.mono ?_
  rintro r w13 ⟨rfl, hb13⟩
  have h10 := HE2.out _ hb13
  have hbG := ptg hbF hb13
  clear hE1 HE2 hbF hb13
  go_wp2_with fail
  refine h10.mono ?_
  rintro r w14 ⟨rfl, hb14⟩
  have hbE := ptg hbG hb14
  clear h10 hbG hb14
  go_wp2
  go_ret
  exact ⟨rfl, hbE⟩

theorem turnTwice_walk (g : Gr) (la ea : Option Addr) (lc ec : Nat) (v t : Int) (w : World) (hG : GAt w la ea g) :
    Calls Try.prog 6 #[.agg #[.int .i64 g.hor, .slice la g.lives.length lc, .slice ea g.edges.length ec], .int .i64 v, .int .i64 t] w fun r w' => r = .returned (.bool true) ∧ Below w.heap.size w w' := by
  by_cases hE : (tRevA g).2 = 0
  · exact turnTwice_ok g la ea lc ec v t w hG hE
  · exact turnTwice_err g la ea lc ec v t w hG hE

end Go.Proofs.Ytanbbkoleekmjag
