/-
  The law EarlyBack, walked.
-/
import Derived.Test.YthgelfnflafoiafLawELater
namespace Go.Proofs.Ythgelfnflafoiaf
open Go.RowKit

theorem zs_cell {w : World} {base : Nat} {u : Value} {n : Nat} {x : List Int} (h : w.ownsRow base 3 1 u n (x.map (Value.int .i64))) {k : Nat} (hk : k < n) : ∃ b cap, u = .slice (some ⟨b, 0, none⟩) n cap ∧ b < w.heap.size ∧ w.cell? ⟨b, k, none⟩ = some (.int .i64 (x.getD k 0)) := by
  rcases h.2 with ⟨_, h0⟩ | ⟨b, cap, cur, e, _, hh, _⟩
  · omega
  · subst e
    exact ⟨b, cap, rfl, (Array.getElem?_eq_some_iff.1 hh).1, Zo.cell h hk⟩

set_option maxRecDepth 100000 in
set_option maxHeartbeats 400000 in
theorem earlyBack_walk (g : Gr) (la ea : Option Addr) (lc ec : Nat) (v t q d : Int) (w : World) (hG : GAt w la ea g) :
    Calls Try.prog 6 #[.agg #[.int .i64 g.hor, .slice la g.lives.length lc, .slice ea g.edges.length ec], .int .i64 v, .int .i64 t, .int .i64 q, .int .i64 d] w fun r w' => r = .returned (.bool true) ∧ Below w.heap.size w w' := by
  have B0 := gbx_start w g la ea lc ec 25
  have h0 := early0_any (w.alloc (.cells #[.int .i64 g.hor, .slice la g.lives.length lc, .slice ea g.edges.length ec] 25))
  have HA := hideg (fun W (hb : Below w.heap.size w W) => eArr_any g la ea lc ec v t W (hG.below hb))
  have HB := hideg (fun W (hb : Below w.heap.size w W) => eDep_any g la ea lc ec q d W (hG.below hb))
  have HAl := hideg (fun (V : Nat) (x : Int) (hV : V < g.lives.length) W (hb : Below w.heap.size w W) => Alive_any g.hor la ea lc g.edges.length ec g.lives V x W (hG.below hb).lv hV hG.nl)
  clear hG
  go_enter Try.func6, Try.ntmps6
  go_wp2_with fail
  refine h0.mono ?_
  rintro r w1 ⟨rfl, hb1⟩
  have B1 := B0.below hb1
  have g0 := B1.c0
  have g1 := B1.c1
  have g2 := B1.c2
  have h1 := HA.out _ B1.bel
  clear h0 hb1 B0 HA
  go_wp2_with fail
  refine h1.mono ?_
  rintro r w2 ⟨u2, rfl, ho2, hb2⟩
  have B2 := B1.below hb2
  clear g0 g1 g2
  have g0 := B2.c0
  have g1 := B2.c1
  have g2 := B2.c2
  have h2 := HB.out _ B2.bel
  clear h1 hb2 B1 HB
  go_wp2_with fail
  refine h2.mono ?_
  rintro r w3 ⟨u3, rfl, ho3, hb3⟩
  have B3 := B2.below hb3
  have ho2 := ownsRow_below ho2 hb3
  clear g0 g1 g2
  have g0 := B3.c0
  have g1 := B3.c1
  have g2 := B3.c2
  have hbF := B3.bel
  clear h2 hb3 B2
  by_cases e1 : placeE g v t = 0
  case neg =>
    have d1 : (placeE g v t != 0) = true := by simpa using e1
    generalize placeE g v t = n at *
    clear e1 B3 HAl ho2 ho3
    go_wp2
    go_ret
    exact ⟨rfl, hbF⟩
  by_cases e2 : placeE g q d = 0
  case neg =>
    have d1 : (placeE g v t != 0) = false := by simpa using e1
    have d2 : (placeE g q d != 0) = true := by simpa using e2
    generalize placeE g v t = n at *
    generalize placeE g q d = n2 at *
    clear e1 e2 B3 HAl ho2 ho3
    go_wp2
    go_ret
    exact ⟨rfl, hbF⟩
  obtain ⟨hg0, ⟨hv0, hv1⟩, ht0, ht1⟩ := placeE_zero e1
  obtain ⟨_, ⟨hq0, hq1⟩, hd0, hd1⟩ := placeE_zero e2
  obtain ⟨V, rfl⟩ : ∃ V : Nat, v = (V : Int) := ⟨v.toNat, by omega⟩
  obtain ⟨Q, rfl⟩ : ∃ V : Nat, q = (V : Int) := ⟨q.toNat, by omega⟩
  have hV : V < g.lives.length := by omega
  have hQ : Q < g.lives.length := by omega
  have h3 := HAl.out V t hV _ hbF
  have HA4 := hideg (fun W hb => HAl.out Q d hQ W hb)
  rw [arrA_ok e1, (erF_len _ _ _).1] at ho2
  rw [depA_ok e2, ltF_len] at ho3
  have hR := gChk_right hg0
  have HBk := hideg (fun ha hb => arr_back hR hv0 hq0 hv1 hq1 (t := t) (d := d) ha hb)
  simp only [Int.toNat_natCast] at HBk
  have HAw : Hid (aliveB t g.lives (V : Int) = false → (erF g (V : Int) t).1.getD Q 0 = 1099511627776) := fun h => by rw [erF_away (by rw [h]; simp), rep_getD _ _ _ hQ]
  have HDw : Hid (aliveB d g.lives (Q : Int) = false → (ltF g (Q : Int) d).getD V 0 = -1) := fun h => by rw [ltF_away (by rw [h]; simp), rep_getD _ _ _ hV]
  rw [e1, e2]
  have hVi : (V : Int) < (g.lives.length : Int) := by omega
  have hQi : (Q : Int) < (g.lives.length : Int) := by omega
  obtain ⟨b2, c2, rfl, hb2, z2⟩ := zs_cell ho2 hQ
  obtain ⟨b3, c3, rfl, hb3, z3⟩ := zs_cell ho3 hV
  generalize (erF g (V : Int) t).1.getD Q 0 = y2 at *
  generalize (ltF g (Q : Int) d).getD V 0 = y3 at *
  have Z2 := hideg z2
  have Z3 := hideg z3
  clear e1 e2 hg0 hR HAl ho2 ho3 z2 z3
  cases ha : aliveB t g.lives (V : Int) with
  | false =>
    rw [ha] at h3
    have hy := HAw.out ha
    subst hy
    clear ha HAw HDw HBk HA4
    go_wp2_with fail
    refine h3.mono ?_
    rintro r w4 ⟨rfl, hb4⟩
    have hbE := ptg hbF hb4
    have z2 := (hb4.cell (p := ⟨b2, Q, none⟩) hb2).trans Z2.out
    have z3 := (hb4.cell (p := ⟨b3, V, none⟩) hb3).trans Z3.out
    clear h3 hb4 hbF B3 g0 g1 g2
    go_wp2
    go_ret
    exact ⟨rfl, hbE⟩
  | true =>
    rw [ha] at h3
    cases hb : aliveB d g.lives (Q : Int) with
    | false =>
      rw [hb] at HA4
      have hy := HDw.out hb
      subst hy
      clear ha hb HAw HDw HBk
      go_wp2_with fail
      refine h3.mono ?_
      rintro r w4 ⟨rfl, hb4⟩
      have hbE := ptg hbF hb4
      have B4 := B3.below hb4
      have h4 := HA4.out _ hbE
      clear h3 hbF B3 g0 g1 g2 HA4
      have g0 := B4.c0
      have g1 := B4.c1
      have g2 := B4.c2
      go_wp2_with fail
      refine h4.mono ?_
      rintro r w5 ⟨rfl, hb5⟩
      have hbG := ptg hbE hb5
      have z2 := ((ptg hb4 hb5).cell (p := ⟨b2, Q, none⟩) hb2).trans Z2.out
      have z3 := ((ptg hb4 hb5).cell (p := ⟨b3, V, none⟩) hb3).trans Z3.out
      clear h4 hb4 hb5 hbE B4 g0 g1 g2
      by_cases hy2 : y2 = 1099511627776
      · have dy : (y2 == 1099511627776) = true := by simpa using hy2
        clear hy2
        go_wp2
        go_ret
        exact ⟨rfl, hbG⟩
      · have dy : (y2 == 1099511627776) = false := by simpa using hy2
        clear hy2
        go_wp2
        go_ret
        exact ⟨rfl, hbG⟩
    | true =>
      rw [hb] at HA4
      have hiff := HBk.out ha hb
      have dd : (decide (y2 ≤ d) == decide (t ≤ y3)) = true := by
        by_cases k : y2 ≤ d
        · simp [k, hiff.1 k]
        · have k2 : ¬ t ≤ y3 := fun h => k (hiff.2 h)
          simp [k, k2]
      clear ha hb HAw HDw HBk hiff
      go_wp2_with fail
      refine h3.mono ?_
      rintro r w4 ⟨rfl, hb4⟩
      have hbE := ptg hbF hb4
      have B4 := B3.below hb4
      have h4 := HA4.out _ hbE
      clear h3 hbF B3 g0 g1 g2 HA4
      have g0 := B4.c0
      have g1 := B4.c1
      have g2 := B4.c2
      go_wp2_with fail
      refine h4.mono ?_
      rintro r w5 ⟨rfl, hb5⟩
      have hbG := ptg hbE hb5
      have z2 := ((ptg hb4 hb5).cell (p := ⟨b2, Q, none⟩) hb2).trans Z2.out
      have z3 := ((ptg hb4 hb5).cell (p := ⟨b3, V, none⟩) hb3).trans Z3.out
      clear h4 hb4 hb5 hbE B4 g0 g1 g2
      go_wp2_with fail
      go_quiet (fail)
      go_wp2
      go_ret
      exact ⟨rfl, below_drewN hbG _⟩

end Go.Proofs.Ythgelfnflafoiaf
