/-
  The law CheapSays, walked.
-/
import Derived.Test.YthgelfnflafoiacLawCSays0
import Derived.Test.YthgelfnflafoiacChRef
import Derived.Test.YthgelfnflafoiacPk1
import Derived.Test.YthgelfnflafoiacEqI
namespace Go.Proofs.Ythgelfnflafoiac
open Go.RowKit

/-- what Fastest of the reference answers, as three numbers -/
theorem fstA_is {g : Gr} {la ea : Option Addr} {w : World} (hG : GAt w la ea g) (hg0 : gChk g = 0) {v q : Nat} (hv : v < g.lives.length) (hq : q < g.lives.length) : ∃ d a e, fstA g v q = .tuple #[.int .i64 d, .int .i64 a, .int .i64 e] ∧ FastIs g v q d a e := by
  obtain ⟨h1, h2⟩ := fast_ref hG hg0 hv hq
  unfold fstA
  by_cases e : (fstF g v q g.hor.toNat).1 = 1099511627776
  · rw [if_pos e]; exact ⟨_, _, _, rfl, h1 e⟩
  · rw [if_neg e]; exact ⟨_, _, _, rfl, h2 e⟩
set_option maxRecDepth 100000 in
set_option maxHeartbeats 1000000 in
theorem cheapSays_walk (g : Gr) (la ea : Option Addr) (lc ec : Nat) (v t q : Int) (w : World) (hG : GAt w la ea g) :
    Calls Try.prog 3 #[.agg #[.int .i64 g.hor, .slice la g.lives.length lc, .slice ea g.edges.length ec], .int .i64 v, .int .i64 t, .int .i64 q] w fun r w' => r = .returned (.bool true) ∧ Below w.heap.size w w' := by
  have B0 := gbx_start w g la ea lc ec 25
  have h1 := Place_any g la ea lc ec v t _ (hG.below B0.bel)
  have HC := hideg (fun W (hb : Below w.heap.size w W) => cCosts_any g la ea lc ec v t W (hG.below hb))
  have HH := hideg (fun W (hb : Below w.heap.size w W) => cHops_any g la ea lc ec v t W (hG.below hb))
  have HK := hideg (fun W (hb : Below w.heap.size w W) => RGraph_any g la ea lc ec W (hG.below hb))
  have HF := hideg (fun W (hb : Below w.heap.size w W) => cFastest_any g la ea lc ec v q W (hG.below hb))
  have hnl : g.lives.length ≤ 9223372036854775807 := hG.nl
  have hwl : IntKind.i64.wrap ((g.lives.length : Int) - 1) = (g.lives.length : Int) - 1 := wrap_nj _ (by omega) (by omega)
  have HG := hideg hG
  by_cases e1 : placeE g v t = 0
  · obtain ⟨hg0, ⟨hv0, hv1⟩, ht0, ht1⟩ := placeE_zero e1
    have hR := gChk_right hg0
    have hlen : g.lives.length ≤ 12 := hR.lvs
    have hhor := hR.hor
    have HS := hideg (fun W (hb : Below w.heap.size w W) => Sums_any g la ea lc ec v t W (hG.below hb) e1)
    have HU1 : Hid (∀ L X, LeastE g prCost v t L → JBest g.lives.length g.hor.toNat (firstT g v t) (allA g id g.hor.toNat) X → L = lstL X g.hor.toNat g.lives.length) := fun L X h B => least_unique hR (prCost_ok hR) hv0 (leastE_ok h e1) (least_ref hR (pr := id) (fun c h1 h2 => ⟨h1, h2⟩) hv0 B)
    have HU2 : Hid (∀ L X, LeastE g prOne v t L → JBest g.lives.length g.hor.toNat (firstT g v t) (allA g (fun _ => 1) g.hor.toNat) X → L = lstL X g.hor.toNat g.lives.length) := fun L X h B => least_unique hR (prOne_ok g) hv0 (leastE_ok h e1) (least_ref hR (pr := fun _ => 1) (fun c h1 h2 => ⟨by omega, by omega⟩) hv0 B)
    have HLl : Hid (∀ X, (lstL X g.hor.toNat g.lives.length).length = g.lives.length) := fun X => by simp [lstL]
    rw [e1] at h1
    rw [e1] at HC HH
    clear hG hR e1
    go_enter Try.func3, Try.ntmps3
    go_wp2_with fail
    refine h1.mono ?_
    rintro r w1 ⟨rfl, hb1⟩
    have B1 := B0.below hb1
    have g0 := B1.c0
    have g1 := B1.c1
    have g2 := B1.c2
    clear h1 hb1 B0
    go_wp2_with fail
    refine (HS.out _ B1.bel).mono ?_
    rintro r w2 ⟨goC, cC, goH, cH, bc, bh, X, Y, rfl, hX, hY, hbc, hbh, hSum, hb2⟩
    have B2 := B1.below hb2
    have hL1 := Least_any w1.heap.size goC cC bc g.hor.toNat g.lives.length X w2 hX hbc (by omega) hlen
    have HL2 := hideg (fun W (hb : Below w2.heap.size w2 W) => Least_any w1.heap.size goH cH bh g.hor.toNat g.lives.length Y W (hY.below hb) hbh (by omega) hlen)
    have HX := hideg hSum.costs
    have HY := hideg hSum.hops
    clear hb2 B1 g0 g1 g2 hX hY hSum hbc hbh HS
    go_wp2_with fail
    refine hL1.mono ?_
    rintro r w3 ⟨u1, rfl, ho1, hb3⟩
    have B3 := B2.below hb3
    have hL2 := HL2.out w3 hb3
    clear hL1 hb3 B2 HL2
    go_wp2_with fail
    refine hL2.mono ?_
    rintro r w4 ⟨u2, rfl, ho2, hb4⟩
    have B4 := B3.below hb4
    have ho1 := ownsRow_below ho1 hb4
    have h5 := HC.out w4 B4.bel
    clear hL2 hb4 B3 HC
    have g0 := B4.c0
    have g1 := B4.c1
    have g2 := B4.c2
    go_wp2_with fail
    refine h5.mono ?_
    rintro r w5 ⟨u3, L3, rfl, hE3, ho3, hb5⟩
    have B5 := B4.below hb5
    have ho1 := ownsRow_below ho1 hb5
    have ho2 := ownsRow_below ho2 hb5
    have h6 := HH.out w5 B5.bel
    have e3 := HU1.out L3 X hE3 HX.out
    clear h5 hb5 B4 HH g0 g1 g2 hE3 HU1
    have g0 := B5.c0
    have g1 := B5.c1
    have g2 := B5.c2
    go_wp2_with fail
    refine h6.mono ?_
    rintro r w6 ⟨u4, L4, rfl, hE4, ho4, hb6⟩
    have B6 := B5.below hb6
    have ho1 := ownsRow_below ho1 hb6
    have ho2 := ownsRow_below ho2 hb6
    have ho3 := ownsRow_below ho3 hb6
    have e4 := HU2.out L4 Y hE4 HY.out
    have hl1 := HLl.out X
    have hl2 := HLl.out Y
    generalize lstL X g.hor.toNat g.lives.length = A at *
    generalize lstL Y g.hor.toNat g.lives.length = C at *
    subst e3
    subst e4
    rw [← hl1] at ho1
    rw [← hl2] at ho2
    obtain ⟨a1, c1, rfl, z1⟩ := zsAt_of_owns ho1
    obtain ⟨a2, c2, rfl, z2⟩ := zsAt_of_owns ho2
    obtain ⟨a3, c3, rfl, z3⟩ := zsAt_of_owns ho3
    obtain ⟨a4, c4, rfl, z4⟩ := zsAt_of_owns ho4
    have hE1 := EqualI_any a3 a1 c3 c1 L3 L3 w6 z3 z1 (by omega)
    have HE2 := hideg (fun W (hb : Below w6.heap.size w6 W) => EqualI_any a4 a2 c4 c2 L4 L4 W (z4.below hb) (z2.below hb) (by omega))
    rw [show decide (L3 = L3) = true from decide_eq_true rfl] at hE1
    rw [show decide (L4 = L4) = true from decide_eq_true rfl] at HE2
    clear h6 hb6 B5 g0 g1 g2 hE4 HU2 ho1 ho2 ho3 ho4 z1 z2 z3 z4 HLl HX HY hl1 hl2
    go_wp2_with fail
    refine hE1.mono ?_
    rintro r w7 ⟨rfl, hb7⟩
    have B7 := B6.below hb7
    have hE2 := HE2.out w7 hb7
    clear hE1 hb7 B6 HE2
    go_wp2_with fail
    refine hE2.mono ?_
    rintro r w8 ⟨rfl, hb8⟩
    have B8 := B7.below hb8
    have h9 := HK.out w8 B8.bel
    clear hE2 hb8 B7 HK
    have g0 := B8.c0
    have g1 := B8.c1
    have g2 := B8.c2
    have HI1 := hideg (fun W => In_any v 0 ((g.lives.length : Int) - 1) W)
    have HI2 := hideg (fun W => In_any q 0 ((g.lives.length : Int) - 1) W)
    have HXo := hideg (fun hn d a e (h : FastE g v q d a e) => fastE_out h hg0 hn)
    have HXi := hideg (fun hn d a e (h : FastE g v q d a e) => fastE_in h hg0 hn)
    have HRf := hideg (fun (V Y : Nat) W (hb : Below w.heap.size w W) (hV : V < g.lives.length) (hY : Y < g.lives.length) => Fastest_any g la ea lc ec V Y W (HG.out.below hb) hg0 hV hY)
    have HRi := hideg (fun (V Y : Nat) (hV : V < g.lives.length) (hY : Y < g.lives.length) => fstA_is HG.out hg0 hV hY)
    rw [hg0] at h9
    clear hg0
    by_cases hvi : 0 ≤ v ∧ v < (g.lives.length : Int)
    · rw [show inR v 0 ((g.lives.length : Int) - 1) = true from (inR_iff _ _ _).2 (by omega)] at HI1
      by_cases hqi : 0 ≤ q ∧ q < (g.lives.length : Int)
      · rw [show inR q 0 ((g.lives.length : Int) - 1) = true from (inR_iff _ _ _).2 (by omega)] at HI2
        have HX := hideg (HXi.out ⟨hvi, hqi⟩)
        obtain ⟨V, rfl⟩ : ∃ V : Nat, v = (V : Int) := ⟨v.toNat, by omega⟩
        obtain ⟨Q, rfl⟩ : ∃ Q : Nat, q = (Q : Int) := ⟨q.toNat, by omega⟩
        obtain ⟨rd, ra, re, hrA, hrI⟩ := HRi.out V Q (by omega) (by omega)
        have HRf2 := hideg (fun W hb => HRf.out V Q W hb (by omega) (by omega))
        rw [hrA] at HRf2
        have HrI := hideg hrI
        clear HXo HXi HRf HRi hvi hqi hrA hrI
        have hi1 := fun W => HI1.out W
        have hi2 := fun W => HI2.out W
        clear HI1 HI2
        go_wp2_with fail
        refine h9.mono ?_
        rintro r w9 ⟨rfl, hb9⟩
        have B9 := B8.below hb9
        clear h9 hb9 B8 g0 g1 g2
        have g0 := B9.c0
        have g1 := B9.c1
        have g2 := B9.c2
        go_wp2_with fail
        refine (hi1 _).mono ?_
        rintro e w' ⟨rfl, rfl⟩
        clear hi1
        go_wp2_with fail
        refine (hi2 _).mono ?_
        rintro e w' ⟨rfl, rfl⟩
        clear hi2
        go_wp2_with fail
        refine (HRf2.out _ B9.bel).mono ?_
        rintro r w11 ⟨rfl, hb11⟩
        have B11 := B9.below hb11
        have h10 := HF.out w11 B11.bel
        clear hb11 B9 g0 g1 g2 HF HRf2
        have g0 := B11.c0
        have g1 := B11.c1
        have g2 := B11.c2
        go_wp2_with fail
        refine h10.mono ?_
        rintro r w10 ⟨d, a, e, rfl, hFE, hb10⟩
        obtain ⟨rfl, rfl, rfl⟩ := fast_unique (HX.out d a e hFE) HrI.out
        have hbF := (B11.below hb10).bel
        clear h10 hb10 B11 hFE g0 g1 g2 HX HrI
        go_wp2
        go_ret
        exact ⟨rfl, hbF⟩
      · rw [show inR q 0 ((g.lives.length : Int) - 1) = false from by rw [← Bool.not_eq_true, inR_iff]; omega] at HI2
        have HX := hideg (HXo.out (fun h => hqi h.2))
        clear HXo HXi HRf HRi hvi hqi
        have hi1 := fun W => HI1.out W
        have hi2 := fun W => HI2.out W
        clear HI1 HI2
        go_wp2_with fail
        refine h9.mono ?_
        rintro r w9 ⟨rfl, hb9⟩
        have B9 := B8.below hb9
        have h10 := HF.out w9 B9.bel
        clear h9 hb9 B8 g0 g1 g2 HF
        have g0 := B9.c0
        have g1 := B9.c1
        have g2 := B9.c2
        go_wp2_with fail
        refine (hi1 _).mono ?_
        rintro e w' ⟨rfl, rfl⟩
        clear hi1
        go_wp2_with fail
        refine (hi2 _).mono ?_
        rintro e w' ⟨rfl, rfl⟩
        clear hi2
        go_wp2_with fail
        refine h10.mono ?_
        rintro r w10 ⟨d, a, e, rfl, hFE, hb10⟩
        obtain ⟨rfl, rfl, rfl⟩ := HX.out d a e hFE
        have hbF := (B9.below hb10).bel
        clear h10 hb10 B9 hFE g0 g1 g2
        go_wp2
        go_ret
        exact ⟨rfl, hbF⟩
    · rw [show inR v 0 ((g.lives.length : Int) - 1) = false from by rw [← Bool.not_eq_true, inR_iff]; omega] at HI1
      have HX := hideg (HXo.out (fun h => hvi h.1))
      have hi1 := fun W => HI1.out W
      clear HXo HXi HRf HRi hvi HI1 HI2
      go_wp2_with fail
      refine h9.mono ?_
      rintro r w9 ⟨rfl, hb9⟩
      have B9 := B8.below hb9
      have h10 := HF.out w9 B9.bel
      clear h9 hb9 B8 g0 g1 g2 HF
      have g0 := B9.c0
      have g1 := B9.c1
      have g2 := B9.c2
      go_wp2_with fail
      refine (hi1 _).mono ?_
      rintro e w' ⟨rfl, rfl⟩
      clear hi1
      go_wp2_with fail
      refine h10.mono ?_
      rintro r w10 ⟨d, a, e, rfl, hFE, hb10⟩
      obtain ⟨rfl, rfl, rfl⟩ := HX.out d a e hFE
      have hbF := (B9.below hb10).bel
      clear h10 hb10 B9 hFE g0 g1 g2
      go_wp2
      go_ret
      exact ⟨rfl, hbF⟩
  · have d1 : (placeE g v t == 0) = false := by simpa using e1
    have d2 : (placeE g v t != placeE g v t) = false := by simp
    have HU1 : Hid (∀ L, LeastE g prCost v t L → L = []) := fun L h => leastE_bad h e1
    have HU2 : Hid (∀ L, LeastE g prOne v t L → L = []) := fun L h => leastE_bad h e1
    clear hG e1
    go_enter Try.func3, Try.ntmps3
    go_wp2_with fail
    refine h1.mono ?_
    rintro r w1 ⟨rfl, hb1⟩
    have B1 := B0.below hb1
    have h5 := HC.out w1 B1.bel
    have g0 := B1.c0
    have g1 := B1.c1
    have g2 := B1.c2
    generalize placeE g v t = pe at *
    clear h1 hb1 B0 HC
    go_wp2_with fail
    refine h5.mono ?_
    rintro r w5 ⟨u3, L3, rfl, hE3, ho3, hb5⟩
    have e3 := HU1.out L3 hE3
    subst e3
    have B5 := B1.below hb5
    have h6 := HH.out w5 B5.bel
    clear h5 hb5 B1 HH g0 g1 g2 hE3 HU1
    have g0 := B5.c0
    have g1 := B5.c1
    have g2 := B5.c2
    go_wp2_with fail
    refine h6.mono ?_
    rintro r w6 ⟨u4, L4, rfl, hE4, ho4, hb6⟩
    have e4 := HU2.out L4 hE4
    subst e4
    have B6 := B5.below hb6
    have ho3 := ownsRow_below ho3 hb6
    obtain ⟨a3, c3, rfl, z3⟩ := zsAt_of_owns ho3
    obtain ⟨a4, c4, rfl, z4⟩ := zsAt_of_owns ho4
    have hE1 := EqualI_any a3 none c3 0 [] [] w6 z3 (.inl rfl) (by simp)
    have HE2 := hideg (fun W (hb : Below w6.heap.size w6 W) => EqualI_any a4 none c4 0 [] [] W (z4.below hb) (.inl rfl) (by simp))
    rw [show decide (([] : List Int) = []) = true from decide_eq_true rfl] at hE1 HE2
    clear h6 hb6 B5 g0 g1 g2 hE4 HU2 ho3 ho4 z3 z4
    go_wp2_with fail
    refine hE1.mono ?_
    rintro r w7 ⟨rfl, hb7⟩
    have B7 := B6.below hb7
    have hE2 := HE2.out w7 hb7
    clear hE1 hb7 B6 HE2
    go_wp2_with fail
    refine hE2.mono ?_
    rintro r w8 ⟨rfl, hb8⟩
    have B8 := B7.below hb8
    have h9 := HK.out w8 B8.bel
    clear hE2 hb8 B7 HK
    have g0 := B8.c0
    have g1 := B8.c1
    have g2 := B8.c2
    have HI1 := hideg (fun W => In_any v 0 ((g.lives.length : Int) - 1) W)
    have HI2 := hideg (fun W => In_any q 0 ((g.lives.length : Int) - 1) W)
    by_cases hg0 : gChk g = 0
    case neg =>
      have HX := hideg (fun d a e (h : FastE g v q d a e) => fastE_chk h hg0)
      have dk : (gChk g == 0) = false := by simpa using hg0
      have dk2 : (gChk g == gChk g) = true := by simp
      generalize gChk g = kk at *
      clear hg0 HI1 HI2
      go_wp2_with fail
      refine h9.mono ?_
      rintro r w9 ⟨rfl, hb9⟩
      have B9 := B8.below hb9
      have h10 := HF.out w9 B9.bel
      clear h9 hb9 B8 HF g0 g1 g2
      have g0 := B9.c0
      have g1 := B9.c1
      have g2 := B9.c2
      go_wp2_with fail
      refine h10.mono ?_
      rintro r w10 ⟨d, a, e, rfl, hFE, hb10⟩
      obtain ⟨rfl, rfl, rfl⟩ := HX.out d a e hFE
      have hbF := (B9.below hb10).bel
      clear h10 hb10 B9 hFE g0 g1 g2
      go_wp2
      go_ret
      exact ⟨rfl, hbF⟩
    have HXo := hideg (fun hn d a e (h : FastE g v q d a e) => fastE_out h hg0 hn)
    have HXi := hideg (fun hn d a e (h : FastE g v q d a e) => fastE_in h hg0 hn)
    have HRf := hideg (fun (V Y : Nat) W (hb : Below w.heap.size w W) (hV : V < g.lives.length) (hY : Y < g.lives.length) => Fastest_any g la ea lc ec V Y W (HG.out.below hb) hg0 hV hY)
    have HRi := hideg (fun (V Y : Nat) (hV : V < g.lives.length) (hY : Y < g.lives.length) => fstA_is HG.out hg0 hV hY)
    rw [hg0] at h9
    clear hg0
    by_cases hvi : 0 ≤ v ∧ v < (g.lives.length : Int)
    · rw [show inR v 0 ((g.lives.length : Int) - 1) = true from (inR_iff _ _ _).2 (by omega)] at HI1
      by_cases hqi : 0 ≤ q ∧ q < (g.lives.length : Int)
      · rw [show inR q 0 ((g.lives.length : Int) - 1) = true from (inR_iff _ _ _).2 (by omega)] at HI2
        have HX := hideg (HXi.out ⟨hvi, hqi⟩)
        obtain ⟨V, rfl⟩ : ∃ V : Nat, v = (V : Int) := ⟨v.toNat, by omega⟩
        obtain ⟨Q, rfl⟩ : ∃ Q : Nat, q = (Q : Int) := ⟨q.toNat, by omega⟩
        obtain ⟨rd, ra, re, hrA, hrI⟩ := HRi.out V Q (by omega) (by omega)
        have HRf2 := hideg (fun W hb => HRf.out V Q W hb (by omega) (by omega))
        rw [hrA] at HRf2
        have HrI := hideg hrI
        clear HXo HXi HRf HRi hvi hqi hrA hrI
        have hi1 := fun W => HI1.out W
        have hi2 := fun W => HI2.out W
        clear HI1 HI2
        go_wp2_with fail
        refine h9.mono ?_
        rintro r w9 ⟨rfl, hb9⟩
        have B9 := B8.below hb9
        clear h9 hb9 B8 g0 g1 g2
        have g0 := B9.c0
        have g1 := B9.c1
        have g2 := B9.c2
        go_wp2_with fail
        refine (hi1 _).mono ?_
        rintro e w' ⟨rfl, rfl⟩
        clear hi1
        go_wp2_with fail
        refine (hi2 _).mono ?_
        rintro e w' ⟨rfl, rfl⟩
        clear hi2
        go_wp2_with fail
        refine (HRf2.out _ B9.bel).mono ?_
        rintro r w11 ⟨rfl, hb11⟩
        have B11 := B9.below hb11
        have h10 := HF.out w11 B11.bel
        clear hb11 B9 g0 g1 g2 HF HRf2
        have g0 := B11.c0
        have g1 := B11.c1
        have g2 := B11.c2
        go_wp2_with fail
        refine h10.mono ?_
        rintro r w10 ⟨d, a, e, rfl, hFE, hb10⟩
        obtain ⟨rfl, rfl, rfl⟩ := fast_unique (HX.out d a e hFE) HrI.out
        have hbF := (B11.below hb10).bel
        clear h10 hb10 B11 hFE g0 g1 g2 HX HrI
        go_wp2
        go_ret
        exact ⟨rfl, hbF⟩
      · rw [show inR q 0 ((g.lives.length : Int) - 1) = false from by rw [← Bool.not_eq_true, inR_iff]; omega] at HI2
        have HX := hideg (HXo.out (fun h => hqi h.2))
        clear HXo HXi HRf HRi hvi hqi
        have hi1 := fun W => HI1.out W
        have hi2 := fun W => HI2.out W
        clear HI1 HI2
        go_wp2_with fail
        refine h9.mono ?_
        rintro r w9 ⟨rfl, hb9⟩
        have B9 := B8.below hb9
        have h10 := HF.out w9 B9.bel
        clear h9 hb9 B8 g0 g1 g2 HF
        have g0 := B9.c0
        have g1 := B9.c1
        have g2 := B9.c2
        go_wp2_with fail
        refine (hi1 _).mono ?_
        rintro e w' ⟨rfl, rfl⟩
        clear hi1
        go_wp2_with fail
        refine (hi2 _).mono ?_
        rintro e w' ⟨rfl, rfl⟩
        clear hi2
        go_wp2_with fail
        refine h10.mono ?_
        rintro r w10 ⟨d, a, e, rfl, hFE, hb10⟩
        obtain ⟨rfl, rfl, rfl⟩ := HX.out d a e hFE
        have hbF := (B9.below hb10).bel
        clear h10 hb10 B9 hFE g0 g1 g2
        go_wp2
        go_ret
        exact ⟨rfl, hbF⟩
    · rw [show inR v 0 ((g.lives.length : Int) - 1) = false from by rw [← Bool.not_eq_true, inR_iff]; omega] at HI1
      have HX := hideg (HXo.out (fun h => hvi h.1))
      have hi1 := fun W => HI1.out W
      clear HXo HXi HRf HRi hvi HI1 HI2
      go_wp2_with fail
      refine h9.mono ?_
      rintro r w9 ⟨rfl, hb9⟩
      have B9 := B8.below hb9
      have h10 := HF.out w9 B9.bel
      clear h9 hb9 B8 g0 g1 g2 HF
      have g0 := B9.c0
      have g1 := B9.c1
      have g2 := B9.c2
      go_wp2_with fail
      refine (hi1 _).mono ?_
      rintro e w' ⟨rfl, rfl⟩
      clear hi1
      go_wp2_with fail
      refine h10.mono ?_
      rintro r w10 ⟨d, a, e, rfl, hFE, hb10⟩
      obtain ⟨rfl, rfl, rfl⟩ := HX.out d a e hFE
      have hbF := (B9.below hb10).bel
      clear h10 hb10 B9 hFE g0 g1 g2
      go_wp2
      go_ret
      exact ⟨rfl, hbF⟩

end Go.Proofs.Ythgelfnflafoiac
