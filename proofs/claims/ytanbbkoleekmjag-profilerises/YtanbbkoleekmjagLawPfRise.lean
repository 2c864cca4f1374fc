/-
  The law ProfileRises, walked.
-/
import Derived.Test.YtanbbkoleekmjagPfMat2
import Derived.Test.YtanbbkoleekmjagPCheck
import Derived.Test.YtanbbkoleekmjagEq3
namespace Go.Proofs.Ytanbbkoleekmjag
open Go.RowKit

theorem three_pcs (w : World) (T : TypeId) : PcAt (w.alloc (.cells #[.int .i64 0, .int .i64 2, .int .i64 4, .int .i64 2, .int .i64 3, .int .i64 5, .int .i64 3, .int .i64 4, .int .i64 6] T)) (some ⟨w.heap.size, 0, none⟩) mPair := by
  refine .inr ⟨_, _, rfl, by simp, fun j hj => ?_⟩
  have hj' : j = 0 ∨ j = 1 ∨ j = 2 := by simp [mPair] at hj; omega
  rcases hj' with rfl | rfl | rfl
  all_goals exact ⟨new_cell rfl rfl, new_cell rfl rfl, new_cell rfl rfl⟩
theorem OfIs.err {g : Gr} {v q e : Int} {m : List (Int × Int × Int)} (h : OfIs g v q e m) (he : e ≠ 0) : m = [] := by
  rcases h with ⟨_, _, h⟩ | ⟨_, _, _, h⟩ | ⟨_, _, h, _⟩
  · exact h
  · exact h
  · exact absurd h he
theorem OfIs.good {g : Gr} {v q : Int} {m : List (Int × Int × Int)} (h : OfIs g v q 0 m) : gChk g = 0 ∧ (∃ V Q : Nat, v = (V : Int) ∧ q = (Q : Int) ∧ V < g.lives.length ∧ Q < g.lives.length ∧ ∀ t, tel m t = profF g V Q t) ∧ MCan m ∧ mchk m = 0 ∧ m.length ≤ 200 := by
  rcases h with ⟨h0, h, _⟩ | ⟨_, _, h, _⟩ | ⟨h0, h1, _, h2, h3⟩
  · exact absurd h.symm h0
  · cases h
  · refine ⟨h0, h1, h2, h3, ?_⟩
    rcases mchk_cases m with k | k | ⟨_, k, _⟩ <;> omega

set_option maxRecDepth 100000 in
set_option maxHeartbeats 1000000 in
theorem profileRises_walk (g : Gr) (la ea : Option Addr) (lc ec : Nat) (v q t : Int) (w : World) (hG : GAt w la ea g) :
    Calls Try.prog 4 #[.agg #[.int .i64 g.hor, .slice la g.lives.length lc, .slice ea g.edges.length ec], .int .i64 v, .int .i64 q, .int .i64 t] w fun r w' => r = .returned (.bool true) ∧ Below w.heap.size w w' := by
  have B0 := gbx_start w g la ea lc ec 25
  have hp := pair_any (w.alloc (.cells #[.int .i64 g.hor, .slice la g.lives.length lc, .slice ea g.edges.length ec] 25))
  have HPo := hideg (fun la' ea' W (hG' : GAt W la' ea' gPair) => pOf_any gPair la' ea' 2 1 0 1 W hG')
  have HOf := hideg (fun W (hb : Below w.heap.size w W) => pOf_any g la ea lc ec v q W (hG.below hb))
  have HAr := hideg (fun W (hb : Below w.heap.size w W) => eArr_any g la ea lc ec v t W (hG.below hb))
  have Hop := hideg (fun e m (h : OfIs gPair 0 1 e m) => of_pair h)
  have HTh := hideg (fun (w : World) (T : TypeId) => three_pcs w T)
  have hml : mPair.length = 3 := rfl
  clear hG
  generalize gPair = gp at *
  go_enter Try.func4, Try.ntmps4
  go_wp2_with fail
  refine hp.mono ?_
  rintro r w1 ⟨la1, ea1, rfl, hG1, hb1⟩
  have B1 := B0.below hb1
  have hpo := HPo.out _ _ _ hG1
  clear hp hb1 B0 hG1 HPo
  go_wp2_with fail
  refine hpo.mono ?_
  rintro r w2 ⟨u1, e1, m1, rfl, hO1, ho1, hb2⟩
  obtain ⟨rfl, rfl⟩ := Hop.out _ _ hO1
  have B2 := B1.below hb2
  obtain ⟨a1, c1, rfl, z1⟩ := pcAt_of_owns ho1
  obtain ⟨w3, hw3⟩ : ∃ x, x = w2.alloc (.cells #[.int .i64 0, .int .i64 2, .int .i64 4, .int .i64 2, .int .i64 3, .int .i64 5, .int .i64 3, .int .i64 4, .int .i64 6] 39) := ⟨_, rfl⟩
  have hb3 : Below w2.heap.size w2 w3 := by rw [hw3]; exact gal w2 _
  have hE := Equal3_any a1 (some ⟨w2.heap.size, 0, none⟩) c1 3 mPair mPair w3 (z1.below hb3) (by rw [hw3]; exact HTh.out w2 _) (by rw [hml]; omega)
  rw [show decide (mPair = mPair) = true from decide_eq_true rfl, hml] at hE
  rw [hml]
  have B3 := B2.below hb3
  have hw3s := hw3.symm
  clear hpo hb2 B1 hO1 ho1 z1 B2 Hop HTh hw3 hml
  go_wp2_with fail
  refine hE.mono ?_
  rintro r w4 ⟨rfl, hb4⟩
  have B4 := B3.below hb4
  have g0 := B4.c0
  have g1 := B4.c1
  have g2 := B4.c2
  clear hE hb4 B3 hb3 hw3s
  go_wp2_with fail
  refine (HOf.out _ B4.bel).mono ?_
  rintro r w5 ⟨u, e, m, rfl, hO, ho, hb5⟩
  have B5 := B4.below hb5
  obtain ⟨ao, ca, rfl, hz⟩ := pcAt_of_owns ho
  clear HOf hb5 B4 ho g0 g1 g2
  by_cases he : e = 0
  case neg =>
    have de : (e != 0) = true := by simpa using he
    have hm := hO.err he
    subst hm
    have hbF := B5.bel
    clear hO hz B5 he HAr
    go_wp2
    go_ret
    exact ⟨rfl, hbF⟩
  subst he
  obtain ⟨h0, ⟨V, Q, rfl, rfl, hV, hQ, hT⟩, hC, hck, hlen⟩ := hO.good
  have hR := gChk_right h0
  have HRi := hideg (rises hR hQ hC hT)
  have hQi : (Q : Int) < (g.lives.length : Int) := by omega
  have HB5 := hideg B5
  have HZ := hideg hz
  have HT := hideg hT
  have Hck := hideg hck
  have HPl : Hid (placeE g (V : Int) t = 0 → (tel m t = none ∧ (erF g (V : Int) t).1.getD Q 0 = 1099511627776) ∨ (tel m t = some ((erF g (V : Int) t).1.getD Q 0) ∧ (erF g (V : Int) t).1.getD Q 0 < 1099511627776)) := by
    intro _
    rw [hT]
    unfold profF
    by_cases ha : aliveB t g.lives (V : Int) = true
    · rcases (erF_ok hR (v := (V : Int)) (by omega) ha).1.is Q hQ with e | e
      · left; exact ⟨by rw [if_neg (fun h => h.2 e)], e⟩
      · right
        have := (e.place hR (by omega)).2.2.2
        have := hR.hor
        exact ⟨by rw [if_pos ⟨ha, by omega⟩], by omega⟩
    · left
      have e : (erF g (V : Int) t).1.getD Q 0 = 1099511627776 := by rw [erF_away ha, rep_getD _ _ _ hQ]
      exact ⟨by rw [if_neg (fun h => ha h.1)], e⟩
  have HLn := hideg (erF_len g (V : Int) t).1
  clear hO hz B5 hT hC hck h0 hR
  go_wp2_with fail
  go_loopw [13, 49] (fun l i wr => ∃ k : Nat, k ≤ m.length ∧ i = .int .i64 (k : Int) ∧ l = .int .i64 (lastV m k) ∧ Below w5.heap.size w5 wr) (fun _ i _ => m.length - (intOf i).toNat)
  case atStart => exact ⟨0, Nat.zero_le _, rfl, rfl, Below.refl _ _⟩
  case round =>
    obtain ⟨k, hk, rfl, rfl, hb⟩ := hrel
    by_cases hkl : k < m.length
    · have hki : (k : Int) < (m.length : Int) := by omega
      have hkw : IntKind.i64.wrap ((k : Int) + 1) = (k : Int) + 1 := wrap_nj _ (by omega) (by omega)
      obtain ⟨r1, r2, r3, r4⟩ := HRi.out k hkl
      rcases HZ.out.below hb with h0 | ⟨b, off, rfl, hbr, hc⟩
      · subst h0; simp at hkl
      obtain ⟨c0, c1, c2⟩ := PcAt.get hkl hc
      have HLs : Hid (lastV m (k + 1) = m[k].2.2) := by show _ = _; simp [lastV, List.getD_eq_getElem?_getD, hkl]
      generalize m[k] = p at *
      obtain ⟨p0, p1, p2⟩ := p
      simp only at r1 r2 r3 r4 c0 c1 c2
      generalize lastV m k = lv at *
      have d1 : ¬ (p2 < lv) := by omega
      have d2 : ¬ (p2 < p1 - 1) := by omega
      have hpw : IntKind.i64.wrap (p1 - 1) = p1 - 1 := wrap_nj _ (by omega) (by omega)
      have HBn := hideg (fun o => hb.alloc hb.size o)
      clear hc hb r1 r2
      go_wp2
      go_roundw
      case rel => exact ⟨k + 1, by omega, by go_num, by rw [HLs.out], HBn.out _⟩
      case measure => simp [intOf]; omega
    · have hkn : ¬ ((k : Int) < (m.length : Int)) := by omega
      have BR := HB5.out.below hb
      have g0 := BR.c0
      have g1 := BR.c1
      have g2 := BR.c2
      have hz := HZ.out.below hb
      have HZr := hideg hz
      clear hz hb HB5 HZ
      go_wp2_with fail
      refine (HAr.out _ BR.bel).mono ?_
      rintro r w6 ⟨u2, rfl, ho2, hb6⟩
      have B6 := BR.below hb6
      have HAt := hideg (fun W (hb : Below w6.heap.size w6 W) => PAt_any ao ca m t W ((HZr.out.below hb6).below hb) (by omega))
      have HCk := hideg (fun W (hb : Below w6.heap.size w6 W) => PCheck_any ao ca m W ((HZr.out.below hb6).below hb))
      clear g0 g1 g2 hb6 BR HAr HZr
      go_wp2_with fail
      refine (HAt.out _ (Below.refl _ _)).mono ?_
      rintro r w7 ⟨rfl, hb7⟩
      have hck := HCk.out _ hb7
      rw [Hck.out] at hck
      have ho2 := ownsRow_below ho2 hb7
      have B7 := B6.below hb7
      clear HAt HCk hb7 B6
      go_wp2_with fail
      refine hck.mono ?_
      rintro r w8 ⟨rfl, hb8⟩
      have ho2 := ownsRow_below ho2 hb8
      have hbF := (B7.below hb8).bel
      clear hck hb8 B7
      by_cases hpl : placeE g (V : Int) t = 0
      · have eA : arrA g (V : Int) t = (erF g (V : Int) t).1 := by unfold arrA; rw [if_pos hpl]
        rw [eA, HLn.out] at ho2
        rcases ho2.2 with ⟨_, h0⟩ | ⟨ga, cga, cur, e', _⟩
        · omega
        subst e'
        have xq := Zo.cell (x := (erF g (V : Int) t).1) ho2 hQ
        have hcs := HPl.out hpl
        rw [hpl]
        generalize (erF g (V : Int) t).1.getD Q 0 = y at *
        clear ho2 hpl HPl eA
        rcases hcs with ⟨h1, rfl⟩ | ⟨h1, h2⟩
        · rw [h1]
          clear h1
          go_wp2
          go_ret
          exact ⟨rfl, hbF⟩
        · rw [h1]
          have dy : decide (y < 1099511627776) = true := by simpa using h2
          have dz : (y == y) = true := by simp
          clear h1
          go_wp2
          go_ret
          exact ⟨rfl, hbF⟩
      · have de : (placeE g (V : Int) t != 0) = true := by simpa using hpl
        generalize placeE g (V : Int) t = n at *
        generalize (tel m t).getD 0 = y0 at *
        generalize (tel m t).isSome = y1 at *
        clear hpl ho2 HPl
        go_wp2
        go_ret
        exact ⟨rfl, hbF⟩

end Go.Proofs.Ytanbbkoleekmjag
