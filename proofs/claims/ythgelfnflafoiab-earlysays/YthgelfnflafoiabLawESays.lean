/-
  The law EarlySays, walked.
-/
import Derived.Test.YthgelfnflafoiabErC
import Derived.Test.YthgelfnflafoiabErRef
import Derived.Test.YthgelfnflafoiabEqI
namespace Go.Proofs.Ythgelfnflafoiab
open Go.RowKit

set_option maxRecDepth 100000 in
set_option maxHeartbeats 1000000 in
theorem earlySays_walk (g : Gr) (la ea : Option Addr) (lc ec : Nat) (v t : Int) (w : World) (hG : GAt w la ea g) :
    Calls Try.prog 6 #[.agg #[.int .i64 g.hor, .slice la g.lives.length lc, .slice ea g.edges.length ec], .int .i64 v, .int .i64 t] w fun r w' => r = .returned (.bool true) ∧ Below w.heap.size w w' := by
  have B0 := gbx_start w g la ea lc ec 41
  have h1 := Place_any g la ea lc ec v t _ (hG.below B0.bel)
  have hA := fun W (hb : Below w.heap.size w W) => eArr_any g la ea lc ec v t W (hG.below hb)
  have hD := fun W (hb : Below w.heap.size w W) => eDep_any g la ea lc ec v t W (hG.below hb)
  by_cases e1 : placeE g v t = 0
  · obtain ⟨hg0, ⟨hv0, hv1⟩, ht0, ht1⟩ := placeE_zero e1
    have hlen : g.lives.length ≤ 12 := (gChk_right hg0).lvs
    have eA : arrA g v t = (erF g v t).1 := by unfold arrA; rw [if_pos e1]
    have eD : depA g v t = ltF g v t := by unfold depA; rw [if_pos e1]
    have hlA := (erF_len g v t).1
    have hlD := ltF_len g v t
    rw [e1, eA] at hA
    rw [e1, eD] at hD
    have hRA : ∀ W, Below w.heap.size w W → Calls Try.prog 23 #[.agg #[.int .i64 g.hor, .slice la g.lives.length lc, .slice ea g.edges.length ec], .int .i64 v, .int .i64 t] W fun r w' => ∃ u, r = .returned u ∧ w'.ownsRow W.heap.size 3 1 u g.lives.length ((erF g v t).1.map (Value.int .i64)) ∧ Below W.heap.size W w' := by
      intro W hb
      refine (Arr_fn g la ea lc ec v t W (hG.below hb) e1).mono ?_
      rintro r w' ⟨gq, cap, rfl, h2, _, h3⟩
      rw [arrF_is hG e1] at h2
      exact ⟨_, rfl, h2, h3⟩
    have hRD : ∀ W, Below w.heap.size w W → Calls Try.prog 24 #[.agg #[.int .i64 g.hor, .slice la g.lives.length lc, .slice ea g.edges.length ec], .int .i64 v, .int .i64 t] W fun r w' => ∃ u, r = .returned u ∧ w'.ownsRow W.heap.size 3 1 u g.lives.length ((ltF g v t).map (Value.int .i64)) ∧ Below W.heap.size W w' := by
      intro W hb
      obtain ⟨V, rfl⟩ : ∃ V : Nat, v = (V : Int) := ⟨v.toNat, by omega⟩
      obtain ⟨D, rfl⟩ : ∃ V : Nat, t = (V : Int) := ⟨t.toNat, by omega⟩
      have := Departures_any g la ea lc ec V D W (hG.below hb) e1
      rw [dep_is hG e1] at this
      exact this
    rw [e1] at h1
    generalize (erF g v t).1 = xa at *
    generalize ltF g v t = xd at *
    have HA := hideg hA
    have HD := hideg hD
    have HRA := hideg hRA
    have HRD := hideg hRD
    have hxa : xa.length ≤ 12 := by omega
    have hxd : xd.length ≤ 12 := by omega
    clear hA hD hRA hRD hG e1 hg0 eA eD hlA hlD
    go_enter Try.func6, Try.ntmps6
    go_wp2_with fail
    refine h1.mono ?_
    rintro r w1 ⟨rfl, hb1⟩
    have B1 := B0.below hb1
    have g0 := B1.c0
    have g1 := B1.c1
    have g2 := B1.c2
    have HB1 := hideg B1
    clear h1 hb1 B0 B1
    go_wp2_with fail
    refine Go.wp_region_held (S := fun w3 => w3.cell? ⟨w.heap.size, 0, none⟩ = some (.int .i64 g.hor) ∧ w3.cell? ⟨w.heap.size, 1, none⟩ = some (.slice la g.lives.length lc) ∧ w3.cell? ⟨w.heap.size, 2, none⟩ = some (.slice ea g.edges.length ec)) (by kernel_rfl) ?_
    generalize hw8 : ({ w1 with drawn := w1.drawn + 1 } : World) = w2
    have B2 : GBx w w2 w.heap.size g la ea lc ec := by rw [← hw8]; exact HB1.out.below (below_drewN (Below.refl _ _) 1)
    have hS0 : w2.cell? ⟨w.heap.size, 0, none⟩ = some (.int .i64 g.hor) ∧ w2.cell? ⟨w.heap.size, 1, none⟩ = some (.slice la g.lives.length lc) ∧ w2.cell? ⟨w.heap.size, 2, none⟩ = some (.slice ea g.edges.length ec) := ⟨B2.c0, B2.c1, B2.c2⟩
    clear hw8 HB1 g0 g1 g2
    refine take_lit (i := 0) (v := ?_) rfl (by kernel_rfl) (by kernel_rfl) (by kernel_rfl) (fun _ _ _ h => h) (Or.inl ⟨by rfl, ?hy0⟩) (by assumption) ?_
    case hy0 => (intro w hSw; (try dsimp only at hSw); go_simp; try with_reducible rfl)
    try simp only [Act.put, List.setIfInBounds_toArray, List.set_cons_zero, List.set_cons_succ]
    refine take_lit (i := 1) (v := ?_) rfl (by kernel_rfl) (by kernel_rfl) (by kernel_rfl) (fun _ _ _ h => h) (Or.inl ⟨by rfl, ?hy1⟩) (by assumption) ?_
    case hy1 => (intro w hSw; (try dsimp only at hSw); go_simp; try with_reducible rfl)
    try simp only [Act.put, List.setIfInBounds_toArray, List.set_cons_zero, List.set_cons_succ]
    refine take_lit (i := 2) (v := ?_) rfl (by kernel_rfl) (by kernel_rfl) (by kernel_rfl) (fun _ _ _ h => h) (Or.inl ⟨by rfl, ?hy2⟩) (by assumption) ?_
    case hy2 => (intro w hSw; (try dsimp only at hSw); go_simp; try with_reducible rfl)
    try simp only [Act.put, List.setIfInBounds_toArray, List.set_cons_zero, List.set_cons_succ]
    refine take_lit (i := 4) (v := ?_) rfl (by kernel_rfl) (by kernel_rfl) (by kernel_rfl) (fun _ _ _ h => h) (Or.inl ⟨by rfl, ?hy4⟩) (by assumption) ?_
    case hy4 => (intro w hSw; (try dsimp only at hSw); go_simp; try with_reducible rfl)
    try simp only [Act.put, List.setIfInBounds_toArray, List.set_cons_zero, List.set_cons_succ]
    refine take_lit (i := 5) (v := ?_) rfl (by kernel_rfl) (by kernel_rfl) (by kernel_rfl) (fun _ _ _ h => h) (Or.inl ⟨by rfl, ?hy5⟩) (by assumption) ?_
    case hy5 => (intro w hSw; (try dsimp only at hSw); go_simp; try with_reducible rfl)
    try simp only [Act.put, List.setIfInBounds_toArray, List.set_cons_zero, List.set_cons_succ]
    refine take_lit (i := 6) (v := ?_) rfl (by kernel_rfl) (by kernel_rfl) (by kernel_rfl) (fun _ _ _ h => h) (Or.inl ⟨by rfl, ?hy6⟩) (by assumption) ?_
    case hy6 => (intro w hSw; (try dsimp only at hSw); go_simp; try with_reducible rfl)
    try simp only [Act.put, List.setIfInBounds_toArray, List.set_cons_zero, List.set_cons_succ]
    refine next_lit (i := 3) rfl (by kernel_rfl) (fun K hK => ?_)
    go_simp
    refine (HRA.out _ B2.bel).mono ?_
    rintro r w3 ⟨u1, rfl, ho1, hb3⟩
    have B3 := B2.below hb3
    have hS3 : w3.cell? ⟨w.heap.size, 0, none⟩ = some (.int .i64 g.hor) ∧ w3.cell? ⟨w.heap.size, 1, none⟩ = some (.slice la g.lives.length lc) ∧ w3.cell? ⟨w.heap.size, 2, none⟩ = some (.slice ea g.edges.length ec) := ⟨B3.c0, B3.c1, B3.c2⟩
    refine hK.out _ _ hS3 (fun _ => ?_)
    clear hK K hS0 hb3 B2
    try simp only [Act.put, List.setIfInBounds_toArray, List.set_cons_zero, List.set_cons_succ]
    refine next_lit (i := 7) rfl (by kernel_rfl) (fun K hK => ?_)
    go_simp
    refine (HRD.out _ B3.bel).mono ?_
    rintro r w4 ⟨u2, rfl, ho2, hb4⟩
    have B4 := B3.below hb4
    have ho1 := ownsRow_below ho1 hb4
    have hS4 : w4.cell? ⟨w.heap.size, 0, none⟩ = some (.int .i64 g.hor) ∧ w4.cell? ⟨w.heap.size, 1, none⟩ = some (.slice la g.lives.length lc) ∧ w4.cell? ⟨w.heap.size, 2, none⟩ = some (.slice ea g.edges.length ec) := ⟨B4.c0, B4.c1, B4.c2⟩
    refine hK.out _ _ hS4 (fun _ => ?_)
    clear hK K hS3 hb4 B3
    try simp only [Act.put, List.setIfInBounds_toArray, List.set_cons_zero, List.set_cons_succ]
    refine take_lit (i := 8) (v := ?_) rfl (by kernel_rfl) (by kernel_rfl) (by kernel_rfl) (fun _ _ _ h => h) (Or.inl ⟨by rfl, ?hy8⟩) (by assumption) ?_
    case hy8 => (intro w hSw; (try dsimp only at hSw); go_simp; try with_reducible rfl)
    try simp only [Act.put, List.setIfInBounds_toArray, List.set_cons_zero, List.set_cons_succ]
    refine take_lit (i := 9) (v := ?_) rfl (by kernel_rfl) (by kernel_rfl) (by kernel_rfl) (fun _ _ _ h => h) (Or.inl ⟨by rfl, ?hy9⟩) (by assumption) ?_
    case hy9 => (intro w hSw; (try dsimp only at hSw); go_simp; try with_reducible rfl)
    try simp only [Act.put, List.setIfInBounds_toArray, List.set_cons_zero, List.set_cons_succ]
    refine wpAnyH_done (by kernel_rfl) ?_ _
    have g0 := B4.c0
    have g1 := B4.c1
    have g2 := B4.c2
    clear hS4
    go_wp2_with fail
    refine (HA.out _ B4.bel).mono ?_
    rintro r w5 ⟨u3, rfl, ho3, hb5⟩
    have B5 := B4.below hb5
    have ho1 := ownsRow_below ho1 hb5
    have ho2 := ownsRow_below ho2 hb5
    clear g0 g1 g2 hb5 B4
    have g0 := B5.c0
    have g1 := B5.c1
    have g2 := B5.c2
    go_wp2_with fail
    refine (HD.out _ B5.bel).mono ?_
    rintro r w6 ⟨u4, rfl, ho4, hb6⟩
    have B6 := B5.below hb6
    have ho1 := ownsRow_below ho1 hb6
    have ho2 := ownsRow_below ho2 hb6
    have ho3 := ownsRow_below ho3 hb6
    obtain ⟨a1, c1, rfl, z1⟩ := zsAt_of_owns ho1
    obtain ⟨a2, c2, rfl, z2⟩ := zsAt_of_owns ho2
    obtain ⟨a3, c3, rfl, z3⟩ := zsAt_of_owns ho3
    obtain ⟨a4, c4, rfl, z4⟩ := zsAt_of_owns ho4
    have hE1 := EqualI_any a3 a1 c3 c1 xa xa w6 z3 z1 (by omega)
    have hE2 := fun W (hb : Below w6.heap.size w6 W) => EqualI_any a4 a2 c4 c2 xd xd W (z4.below hb) (z2.below hb) (by omega)
    rw [show decide (xa = xa) = true from decide_eq_true rfl] at hE1
    rw [show decide (xd = xd) = true from decide_eq_true rfl] at hE2
    have hbF := B6.bel
    have HE2 := hideg hE2
    clear g0 g1 g2 hb6 B5 B6 ho1 ho2 ho3 ho4 z1 z2 z3 z4 hE2
    go_wp2_with fail
    refine hE1.mono ?_
    rintro r w7 ⟨rfl, hb7⟩
    have hbF7 := ptg hbF hb7
    have hE3 := HE2.out _ hb7
    clear hE1 hb7 hbF
    go_wp2_with fail
    refine hE3.mono ?_
    rintro r w9 ⟨rfl, hb9⟩
    have hbF9 := ptg hbF7 hb9
    clear hE3 hb9 hbF7
    go_wp2
    go_ret
    exact ⟨rfl, hbF9⟩
  · have eA : arrA g v t = [] := by unfold arrA; rw [if_neg e1]
    have eD : depA g v t = [] := by unfold depA; rw [if_neg e1]
    have d1 : (placeE g v t == 0) = false := by simpa using e1
    have d2 : (placeE g v t == placeE g v t) = true := by simp
    rw [eA] at hA
    rw [eD] at hD
    generalize placeE g v t = n at *
    have HA := hideg hA
    have HD := hideg hD
    clear hA hD hG e1 eA eD
    go_enter Try.func6, Try.ntmps6
    go_wp2_with fail
    refine h1.mono ?_
    rintro r w1 ⟨rfl, hb1⟩
    have B1 := B0.below hb1
    have g0 := B1.c0
    have g1 := B1.c1
    have g2 := B1.c2
    clear h1 hb1 B0
    go_wp2_with fail
    refine (HA.out _ B1.bel).mono ?_
    rintro r w5 ⟨u3, rfl, ho3, hb5⟩
    have B5 := B1.below hb5
    clear g0 g1 g2 hb5 B1
    have g0 := B5.c0
    have g1 := B5.c1
    have g2 := B5.c2
    go_wp2_with fail
    refine (HD.out _ B5.bel).mono ?_
    rintro r w6 ⟨u4, rfl, ho4, hb6⟩
    have B6 := B5.below hb6
    have ho3 := ownsRow_below ho3 hb6
    obtain ⟨a3, c3, rfl, z3⟩ := zsAt_of_owns ho3
    obtain ⟨a4, c4, rfl, z4⟩ := zsAt_of_owns ho4
    have hE1 := EqualI_any a3 none c3 0 [] [] w6 z3 (.inl rfl) (by simp)
    have hE2 := fun W (hb : Below w6.heap.size w6 W) => EqualI_any a4 none c4 0 [] [] W (z4.below hb) (.inl rfl) (by simp)
    rw [show decide (([] : List Int) = []) = true from decide_eq_true rfl] at hE1 hE2
    have hbF := B6.bel
    have HE2 := hideg hE2
    clear g0 g1 g2 hb6 B5 B6 ho3 ho4 z3 z4 hE2
    go_wp2_with fail
    refine hE1.mono ?_
    rintro r w7 ⟨rfl, hb7⟩
    have hbF7 := ptg hbF hb7
    have hE3 := HE2.out _ hb7
    clear hE1 hb7 hbF
    go_wp2_with fail
    refine hE3.mono ?_
    rintro r w9 ⟨rfl, hb9⟩
    have hbF9 := ptg hbF7 hb9
    clear hE3 hb9 hbF7
    go_wp2
    go_ret
    exact ⟨rfl, hbF9⟩

end Go.Proofs.Ythgelfnflafoiab
