/-
  The law CheapWays, walked.
-/
import Derived.Test.YthgelfnflafoiacLawEWays
import Derived.Test.YthgelfnflafoiacChW
import Derived.Test.YthgelfnflafoiacChRef
namespace Go.Proofs.Ythgelfnflafoiac
open Go.RowKit

set_option maxRecDepth 100000 in
set_option maxHeartbeats 1000000 in
theorem cheapWays_walk (g : Gr) (la ea : Option Addr) (lc ec : Nat) (v t q : Int) (w : World) (hG : GAt w la ea g) :
    Calls Try.prog 5 #[.agg #[.int .i64 g.hor, .slice la g.lives.length lc, .slice ea g.edges.length ec], .int .i64 v, .int .i64 t, .int .i64 q] w fun r w' => r = .returned (.bool true) ∧ Below w.heap.size w w' := by
  have B0 := gbx_start w g la ea lc ec 25
  have h1 := cWay_any g la ea lc ec v t q _ (hG.below B0.bel)
  have HP := hideg (fun W (hb : Below w.heap.size w W) => Place_any g la ea lc ec v t W (hG.below hb))
  have HS := hideg (fun (e1 : placeE g v t = 0) W (hb : Below w.heap.size w W) => Sums_any g la ea lc ec v t W (hG.below hb) e1)
  have HG := hideg hG
  clear hG
  go_enter Try.func5, Try.ntmps5
  go_wp2_with fail
  refine h1.mono ?_
  rintro r w1 ⟨u, e, l, rfl, hW, hown, hb1⟩
  have B1 := B0.below hb1
  have g0 := B1.c0
  have g1 := B1.c1
  have g2 := B1.c2
  have h2 := HP.out _ B1.bel
  have HB1 := hideg B1
  have HO1 := hideg hown
  clear h1 hb1 B0 B1 hown
  by_cases e1 : placeE g v t = 0
  case neg =>
    have hel : e = placeE g v t ∧ l = [] := by
      rcases hW with ⟨_, h1, h2⟩ | ⟨h1, _⟩ | ⟨h1, _⟩
      · exact ⟨h1, h2⟩
      · exact absurd h1 e1
      · exact absurd h1 e1
    obtain ⟨rfl, rfl⟩ := hel
    have HWb := hideg (fun ho hc W (hb : Below w.heap.size w W) => ways_bad g la ea lc ec v t q none 0 0 [] ho hc (placeE g v t) W (HG.out.below hb) (.inl ⟨e1, rfl⟩))
    have d0 : (placeE g v t == 0) = false := by simpa using e1
    have d1 : (placeE g v t != 0) = true := by simpa using e1
    generalize placeE g v t = n at *
    clear e1 HS hW
    go_wp2_with fail
    refine h2.mono ?_
    rintro r w2 ⟨rfl, hb2⟩
    have B2 := HB1.out.below hb2
    obtain ⟨ho, hc, rfl, _⟩ := ivAt_of_owns HO1.out
    clear g0 g1 g2 h2 hb2
    have g0 := B2.c0
    have g1 := B2.c1
    have g2 := B2.c2
    have h3 := HWb.out ho hc _ B2.bel
    have hbx := B2.bel
    clear HWb B2 HB1 HO1
    go_wp2_with fail
    refine h3.mono ?_
    rintro r w3 ⟨rfl, hb3⟩
    have hbF := ptg hbx hb3
    clear h3 hb3 hbx g0 g1 g2
    go_wp2
    go_ret
    exact ⟨rfl, hbF⟩
  obtain ⟨hg0, ⟨hv0, hv1⟩, ht0, ht1⟩ := placeE_zero e1
  have hR := gChk_right hg0
  have hlen := hR.lvs
  have hhor := hR.hor
  have HLs : Hid (∀ X Y, SumIs g v t X Y → LeastIs g prCost v t (lstL X g.hor.toNat g.lives.length)) := fun X Y S => least_ref hR (pr := id) (fun c h1 h2 => ⟨h1, h2⟩) hv0 S.costs
  have HWb : Hid (∀ ho hc gq cap W T, e = 4 → (¬ (0 ≤ q ∧ q < g.lives.length) ∨ ∀ τ p, ¬ Pay g prCost v t q τ p) → LeastIs g prCost v t T → Below w.heap.size w W → ZsAt W (some ⟨gq, 0, none⟩) T → Calls Try.prog 19 #[.agg #[.int .i64 g.hor, .slice la g.lives.length lc, .slice ea g.edges.length ec], .int .i64 v, .int .i64 t, .int .i64 q, .slice (some ⟨gq, 0, none⟩) g.lives.length cap, .slice ho 0 hc, .int .i64 e] W fun r w' => r = .returned (.tuple #[.int .i64 0, .int .i64 0, .bool true]) ∧ Below W.heap.size W w') := fun ho hc gq cap W T he hq hT hb hZ => by
    subst he
    refine ways_bad g la ea lc ec v t q (some ⟨gq, 0, none⟩) g.lives.length cap T ho hc 4 W (HG.out.below hb) (.inr ⟨e1, rfl, ?_⟩)
    by_cases hr : 0 ≤ q ∧ q < g.lives.length
    · rcases hq with hq | hq
      · exact absurd hr hq
      · refine .inr ⟨rfl, hT.len, hZ, ?_, hr⟩
        rcases hT.is q.toNat (by omega) with k | ⟨τ, k⟩
        · exact k
        · rw [show ((q.toNat : Nat) : Int) = q by omega] at k
          exact absurd k (hq _ _)
    · exact .inl hr
  have HWk : Hid (∀ (Y : Nat) ho hc gq cap W T τ P, e = 0 → q = (Y : Int) → Y < g.lives.length → l.length ≤ 100 → aliveB t g.lives v = true → goF g (some (v, t, 0)) l = some (q, τ, P) → (∃ τ', Pay g prCost v t q τ' P) → (∀ τ' p, Pay g prCost v t q τ' p → P ≤ p) → LeastIs g prCost v t T → Below w.heap.size w W → ZsAt W (some ⟨gq, 0, none⟩) T → IvAt W ho l → (T.getD Y 0 = P ∧ Calls Try.prog 19 #[.agg #[.int .i64 g.hor, .slice la g.lives.length lc, .slice ea g.edges.length ec], .int .i64 v, .int .i64 t, .int .i64 Y, .slice (some ⟨gq, 0, none⟩) g.lives.length cap, .slice ho l.length hc, .int .i64 0] W fun r w' => r = .returned (.tuple #[.int .i64 τ, .int .i64 P, .bool true]) ∧ Below W.heap.size W w')) := fun Y ho hc gq cap W T τ P he hqY hY hl hal hgo hex hle hT hb hZ hH => by
    subst hqY
    obtain ⟨τ', hP⟩ := hex
    have hr := hP.range hR (prCost_ok hR) hv0
    have h1 := hT.least Y hY _ _ hP
    have hTY : T.getD Y 0 = P := by
      rcases hT.is Y hY with k | ⟨τ'', k⟩
      · omega
      · have := hle _ _ k; omega
    have hga := goAns_ok (s := (v, t, 0)) hg0 ⟨hv0, hv1, hal⟩ rfl (by omega) hgo
    exact ⟨hTY, ways_ok g la ea lc ec v t Y (some ⟨gq, 0, none⟩) cap T ho hc l τ P W (HG.out.below hb) e1 hY hT.len hZ (by omega) hH (by omega) hga⟩
  rw [e1] at h2
  have HS2 := hideg (HS.out e1)
  have hW' : (e = 4 ∧ l = [] ∧ (¬ (0 ≤ q ∧ q < g.lives.length) ∨ ∀ τ p, ¬ Pay g prCost v t q τ p)) ∨ (e = 0 ∧ (0 ≤ q ∧ q < g.lives.length) ∧ l.length ≤ 100 ∧ ∃ τ P, aliveB t g.lives v = true ∧ goF g (some (v, t, 0)) l = some (q, τ, P) ∧ (∃ τ', Pay g prCost v t q τ' P) ∧ ∀ τ' p, Pay g prCost v t q τ' p → P ≤ p) := by
    rcases hW with ⟨h1, _⟩ | ⟨_, h2, h3, h4⟩ | ⟨_, h2, h3, h4, h5⟩
    · exact absurd e1 h1
    · exact .inl ⟨h3, h4, h2⟩
    · exact .inr ⟨h3, h2, h4, h5⟩
  have HW := hideg hW'
  have HRt := hideg hR
  have hn0 : 0 < g.lives.length := by omega
  clear hW hW' e1 hg0 hv0 hv1 ht0 ht1 hR HS
  go_wp2_with fail
  refine h2.mono ?_
  rintro r w2 ⟨rfl, hb2⟩
  have B2 := HB1.out.below hb2
  have ho1 := ownsRow_below HO1.out hb2
  have h3 := HS2.out w2 B2.bel
  clear h2 hb2 HB1 HO1 g0 g1 g2 HS2
  have g0 := B2.c0
  have g1 := B2.c1
  have g2 := B2.c2
  go_wp2_with fail
  refine h3.mono ?_
  rintro r w3 ⟨goC, cC, goH, cH, bc, bh, X, Y, rfl, hX, hY, hbc, hbh, hSum, hb3⟩
  have B3 := B2.below hb3
  have ho1 := ownsRow_below ho1 hb3
  have hL1 := Least_any w2.heap.size goC cC bc g.hor.toNat g.lives.length X w3 hX hbc (by omega) hlen
  have hLs := HLs.out X Y hSum
  clear h3 hb3 B2 g0 g1 g2 hX hY hbc hbh hSum HLs
  generalize lstL X g.hor.toNat g.lives.length = T at *
  have HLs := hideg hLs
  clear hLs
  go_wp2_with fail
  refine hL1.mono ?_
  rintro r w4 ⟨uT, rfl, hoT, hb4⟩
  have B4 := B3.below hb4
  have ho1 := ownsRow_below ho1 hb4
  rcases hoT.2 with ⟨_, h0⟩ | ⟨gq, cap, cur, rfl, _⟩
  · omega
  have hZ := zsAt_of_zoE hoT
  have hZl := (World.ownsRow.lt hoT _ rfl).2
  obtain ⟨ho, hc, rfl, hI⟩ := ivAt_of_owns ho1
  have cY := fun (Y : Nat) (hY : Y < g.lives.length) => Zo.cell hoT hY
  have g0 := B4.c0
  have g1 := B4.c1
  have g2 := B4.c2
  have HB4 := hideg B4
  have HCY := hideg cY
  clear hL1 hb4 B3 ho1 cY
  rcases HW.out with ⟨he, hl, hq⟩ | ⟨he, hq, hl, τ, P, hal, hgo, hex, hle⟩
  · have h5 := HWb.out ho hc gq cap w4 T he hq HLs.out HB4.out.bel hZ
    subst he
    subst hl
    clear HWb HWk HW HLs hq hZ hI hoT HCY B4 hZl
    go_wp2_with fail
    refine h5.mono ?_
    rintro r w5 ⟨rfl, hb5⟩
    have hbF := (HB4.out.below hb5).bel
    clear h5 hb5 g0 g1 g2 HB4
    go_wp2
    go_ret
    exact ⟨rfl, hbF⟩
  · obtain ⟨Q, hQ⟩ : ∃ Q : Nat, q = (Q : Int) := ⟨q.toNat, by omega⟩
    have hQl : Q < g.lives.length := by omega
    have hQi : (Q : Int) < (g.lives.length : Int) := by omega
    obtain ⟨hTQ, h5⟩ := HWk.out Q ho hc gq cap w4 T τ P he hQ hQl hl hal hgo hex hle HLs.out HB4.out.bel hZ hI
    have cQ := HCY.out Q hQl
    rw [hTQ] at cQ
    subst he
    subst hQ
    clear HWb HWk HW HLs hq hl hal hgo hex hle hZ hI hTQ hoT HCY B4
    go_wp2_with fail
    refine h5.mono ?_
    rintro r w5 ⟨rfl, hb5⟩
    have hbF := (HB4.out.below hb5).bel
    have cQ5 := (hb5.cell (p := ⟨gq, Q, none⟩) hZl).trans cQ
    clear h5 hb5 g0 g1 g2 HB4 cQ
    go_wp2
    go_ret
    exact ⟨rfl, hbF⟩

end Go.Proofs.Ythgelfnflafoiac
