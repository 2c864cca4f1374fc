/-
  The law JourneyLeaves, walked.
-/
import Derived.Test.YthgelfnflafoiafJpD
import Derived.Test.YthgelfnflafoiafPair
import Derived.Test.YthgelfnflafoiafIdxH
namespace Go.Proofs.Ythgelfnflafoiaf
open Go.RowKit

/-- one leaves by a hop just if it is among those that are told -/
theorem one_goes {g : Gr} {v t : Int} {h : Hp} (hp : placeE g v t = 0) : (h ∈ outsF g v t ∧ (goAns g v t [h]).2.2.2 = 0) ∨ (h ∉ outsF g v t ∧ (goAns g v t [h]).2.2.2 = 5) := by
  have R := gChk_right (placeE_zero hp).1
  unfold goAns
  rw [if_pos hp, if_neg (by simp)]
  cases ha : aliveB t g.lives v with
  | false =>
    right
    refine ⟨?_, by simp [goF_none]⟩
    unfold outsF
    rw [if_neg (by simp [ha])]; simp
  | true =>
    rw [mem_outs R ha]
    simp only [if_true]
    rw [goF_cons, goF_nil, Option.bind_some]
    cases hopF g (v, t, 0) h with
    | none => right; exact ⟨by simp, rfl⟩
    | some s => left; exact ⟨rfl, rfl⟩
theorem outs_len {g : Gr} {v t : Int} (hp : placeE g v t = 0) : (outsF g v t).length ≤ 3000 := by
  obtain ⟨hg0, _, ht0, _⟩ := placeE_zero hp
  have hR := gChk_right hg0
  have h1 := hR.hor
  have h2 := hR.eds
  unfold outsF
  split
  · exact Nat.le_trans (outsTo_len g v t _) (Nat.le_trans (Nat.mul_le_mul (show (g.hor - t).toNat ≤ 100 by omega) h2) (by omega))
  · simp

set_option maxRecDepth 100000 in
set_option maxHeartbeats 8000000 in
theorem journeyLeaves_walk (g : Gr) (la ea : Option Addr) (lc ec : Nat) (v t : Int) (h : Hp) (w : World) (hG : GAt w la ea g) :
    Calls Try.prog 4 #[.agg #[.int .i64 g.hor, .slice la g.lives.length lc, .slice ea g.edges.length ec], .int .i64 v, .int .i64 t, .agg #[.int .i64 h.1, .int .i64 h.2]] w fun r w' => r = .returned (.bool true) ∧ Below w.heap.size w w' := by
  obtain ⟨W0, hW0⟩ : ∃ W0, W0 = (w.alloc (.cells #[.int .i64 g.hor, .slice la g.lives.length lc, .slice ea g.edges.length ec] 25)).alloc (.cells #[.int .i64 h.1, .int .i64 h.2] 37) := ⟨_, rfl⟩
  have B0 : GBx w W0 w.heap.size g la ea lc ec := by rw [hW0]; exact (gbx_start w g la ea lc ec 25).below (gal _ _)
  have x0 : W0.cell? ⟨w.heap.size + 1, 0, none⟩ = some (.int .i64 h.1) := by rw [hW0]; exact new_cell (by simp) rfl
  have x1 : W0.cell? ⟨w.heap.size + 1, 1, none⟩ = some (.int .i64 h.2) := by rw [hW0]; exact new_cell (by simp) rfl
  have ltx : w.heap.size + 1 < W0.heap.size := by rw [hW0]; simp
  have HX : Hid (∀ W, Below W0.heap.size W0 W → W.cell? ⟨w.heap.size + 1, 0, none⟩ = some (.int .i64 h.1) ∧ W.cell? ⟨w.heap.size + 1, 1, none⟩ = some (.int .i64 h.2) ∧ GBx w W w.heap.size g la ea lc ec) := fun W hb => ⟨(hb.cell (p := ⟨w.heap.size + 1, 0, none⟩) ltx).trans x0, (hb.cell (p := ⟨w.heap.size + 1, 1, none⟩) ltx).trans x1, B0.below hb⟩
  have hgo := goes_any W0
  have h1 := fun W (hb : Below w.heap.size w W) => jOut_any g la ea lc ec v t W (hG.below hb)
  have HG := hideg (fun W (hb : Below w.heap.size w W) => hG.below hb)
  clear hG B0 x0 x1
  by_cases e1 : placeE g v t = 0
  · have HO : outAns g v t = outsF g v t := by unfold outAns; rw [if_pos e1]
    have hln := outs_len e1
    have HG1 := hideg (fun x : Hp => one_goes (h := x) e1)
    have HSo := hideg (outs_sorted g v t)
    rw [HO, e1] at h1
    generalize outsF g v t = out at *
    clear e1 HO
    go_enter Try.func4, Try.ntmps4
    go_wp2_with fail
    rw [← hW0]
    refine hgo.mono ?_
    rintro r w1 ⟨rfl, hb1⟩
    obtain ⟨x0, x1, B1⟩ := HX.out w1 hb1
    have g0 := B1.c0
    have g1 := B1.c1
    have g2 := B1.c2
    have hbx := B1.bel
    clear hgo B1
    go_wp2_with fail
    refine (h1 _ hbx).mono ?_
    rintro r w2 ⟨u, rfl, ho2, hb2⟩
    obtain ⟨ao, ca, rfl, hA⟩ := ivAt_of_owns ho2
    have hb02 := ptg hb1 hb2
    clear g0 g1 g2 x0 x1 hbx h1 hb1 hb2 ho2 hW0
    go_wp2_with fail
    go_loopw [37] (fun i wr => ∃ k : Nat, k ≤ out.length ∧ i = .int .i64 k ∧ Below w2.heap.size w2 wr) (fun i _ => out.length - (intOf i).toNat)
    case atStart => exact ⟨0, Nat.zero_le _, rfl, Below.refl _ _⟩
    case round =>
      obtain ⟨k, hk, rfl, hb⟩ := hrel
      obtain ⟨x0, x1, BR⟩ := HX.out wr (ptg hb02 hb)
      by_cases hlt : k < out.length
      · have hx : out[k] ∈ out := List.getElem_mem hlt
        have HGo : Hid ((goAns g v t [out[k]]).2.2.2 = 0) := by
          rcases HG1.out out[k] with h' | h'
          · exact h'.2
          · exact absurd hx h'.1
        rcases hA.below hb with h0 | ⟨b, off, rfl, hbr, hc⟩
        · subst h0; simp at hlt
        obtain ⟨c0, c1⟩ := IvAt.get hlt hc
        have BA := BR.below (gal wr (.cells #[.int .i64 out[k].1, .int .i64 out[k].2] 37))
        have g0 := BA.c0
        have g1 := BA.c1
        have g2 := BA.c2
        have hGo := jGo_any g la ea lc ec v t (some ⟨(wr.alloc (.cells #[.int .i64 out[k].1, .int .i64 out[k].2] 37)).heap.size, 0, none⟩) 1 [out[k]] ((wr.alloc (.cells #[.int .i64 out[k].1, .int .i64 out[k].2] 37)).alloc (.cells #[.int .i64 out[k].1, .int .i64 out[k].2] 37)) (HG.out _ (ptg BA.bel (gal _ _))) (one_hop _ _ _ _) (by simp)
        rw [World.size_alloc] at hGo
        unfold goW at hGo
        rw [HGo.out] at hGo
        simp only [List.length_cons, List.length_nil, Nat.zero_add] at hGo
        have HBn : Hid (∀ W, Below ((wr.alloc (.cells #[.int .i64 out[k].1, .int .i64 out[k].2] 37)).alloc (.cells #[.int .i64 out[k].1, .int .i64 out[k].2] 37)).heap.size ((wr.alloc (.cells #[.int .i64 out[k].1, .int .i64 out[k].2] 37)).alloc (.cells #[.int .i64 out[k].1, .int .i64 out[k].2] 37)) W → Below wr.heap.size wr W ∧ W.cell? ⟨wr.heap.size, 0, none⟩ = some (.int .i64 out[k].1) ∧ W.cell? ⟨wr.heap.size, 1, none⟩ = some (.int .i64 out[k].2) ∧ wr.heap.size < W.heap.size) := by
          intro W hw
          have hs := hw.size
          simp only [World.size_alloc] at hs
          refine ⟨ptg (ptg (gal _ _) (gal _ _)) hw, ?_, ?_, by omega⟩
          · rw [hw.cell (p := ⟨wr.heap.size, 0, none⟩) (by simp <;> omega), (gal _ _).cell (p := ⟨wr.heap.size, 0, none⟩) (by simp)]; exact new_cell rfl rfl
          · rw [hw.cell (p := ⟨wr.heap.size, 1, none⟩) (by simp <;> omega), (gal _ _).cell (p := ⟨wr.heap.size, 1, none⟩) (by simp)]; exact new_cell rfl rfl
        have HPr : Hid (∀ j, j + 1 = k → ∃ hj : j < out.length, HLt out[j] out[k]) := by
          intro j hj
          have hj' : j < out.length := by omega
          exact ⟨hj', List.pairwise_iff_getElem.1 HSo.out j k hj' hlt (by omega)⟩
        generalize goAns g v t [out[k]] = ga at *
        obtain ⟨ga1, ga2, ga3, ga4⟩ := ga
        simp only at hGo
        go_wp2_with fail
        refine hGo.mono ?_
        rintro r w4 ⟨rfl, hb4'⟩
        obtain ⟨hb4, y0, y1, y2⟩ := HBn.out w4 hb4'
        have hbW := ptg hb hb4
        have hbr4 := Nat.lt_of_lt_of_le hbr hb4.size
        clear hGo hb4' g0 g1 g2 BA BR c0 c1 x0 x1 HBn
        have HBW := hideg hbW
        have HC : Hid (∀ j (hj : j < out.length), w4.cell? ⟨b, off + j * 2, none⟩ = some (.int .i64 out[j].1) ∧ w4.cell? ⟨b, off + j * 2 + 1, none⟩ = some (.int .i64 out[j].2)) := fun j hj => by
          obtain ⟨q0, q1⟩ := IvAt.get hj hc
          exact ⟨(hb4.cell (p := ⟨b, off + j * 2, none⟩) hbr).trans q0, (hb4.cell (p := ⟨b, off + j * 2 + 1, none⟩) hbr).trans q1⟩
        clear hb4 hbW hc hA hb
        rcases Nat.eq_zero_or_pos k with hk0 | hk0
        · subst hk0
          go_wp2
          go_quiet (fail)
          go_wp2
          go_roundw
          case rel => exact ⟨0 + 1, by omega, by go_num, below_drewN HBW.out _⟩
          case measure => simp [intOf]; omega
        · obtain ⟨j, rfl⟩ : ∃ j, k = j + 1 := ⟨k - 1, by omega⟩
          obtain ⟨hj, hLt⟩ := HPr.out j rfl
          obtain ⟨z0, z1⟩ := HC.out j hj
          have hw1 : IntKind.i64.wrap (((j + 1 : Nat) : Int) - 1) = (j : Int) := by rw [wrap_nj _ (by omega) (by omega)]; omega
          have hpos : decide ((0 : Int) < ((j + 1 : Nat) : Int)) = true := by rw [decide_eq_true_eq]; omega
          have hji : (j : Int) < (out.length : Int) := by omega
          clear HC HPr hk0
          rcases hLt with h1 | ⟨h1, h2⟩
          · have d1 : decide (out[j + 1].2 < out[j].2) = false := by simp; omega
            have d2 : (out[j].2 == out[j + 1].2) = false := by simp; omega
            clear h1
            go_wp2
            go_quiet (fail)
            go_wp2
            go_roundw
            case rel => exact ⟨j + 1 + 1, by omega, by go_num, below_drewN HBW.out _⟩
            case measure => simp [intOf]; omega
          · have d1 : decide (out[j + 1].2 < out[j].2) = false := by simp; omega
            have d2 : (out[j].2 == out[j + 1].2) = true := by simpa using h1
            have d3 : decide (out[j + 1].1 ≤ out[j].1) = false := by simpa using h2
            clear h1 h2
            go_wp2
            go_quiet (fail)
            go_wp2
            go_roundw
            case rel => exact ⟨j + 1 + 1, by omega, by go_num, below_drewN HBW.out _⟩
            case measure => simp [intOf]; omega
      · have g0 := BR.c0
        have g1 := BR.c1
        have g2 := BR.c2
        have hkl : k = out.length := by omega
        have hGo := jGo_any g la ea lc ec v t (some ⟨wr.heap.size, 0, none⟩) 1 [h] (wr.alloc (.cells #[.int .i64 h.1, .int .i64 h.2] 37)) (HG.out _ (ptg BR.bel (gal _ _))) (one_hop _ _ _ _) (by simp)
        unfold goW at hGo
        simp only [List.length_cons, List.length_nil, Nat.zero_add] at hGo
        have HCo := hideg (fun W (hw : Below w2.heap.size w2 W) => ContainsHop_any ao ca out h W (hA.below hw) (by omega))
        have HEq : Hid (((goAns g v t [h]).2.2.2 == 0) = decide (h ∈ out)) := by
          show _ = _
          rcases HG1.out h with h' | h'
          · rw [h'.2, decide_eq_true h'.1]; rfl
          · rw [h'.2, decide_eq_false h'.1]; rfl
        have HBn : Hid (∀ W, Below (wr.alloc (.cells #[.int .i64 h.1, .int .i64 h.2] 37)).heap.size (wr.alloc (.cells #[.int .i64 h.1, .int .i64 h.2] 37)) W → Below w2.heap.size w2 W) := fun W hw => ptg hb (ptg (gal _ _) hw)
        generalize goAns g v t [h] = ga at *
        obtain ⟨ga1, ga2, ga3, ga4⟩ := ga
        simp only at hGo HEq
        subst hkl
        clear BR hA hb HG1 HSo hlt
        go_wp2_with fail
        refine hGo.mono ?_
        rintro r w4 ⟨rfl, hb4'⟩
        have hb4 := HBn.out w4 hb4'
        clear hGo hb4' g0 g1 g2 x0 x1 HBn
        obtain ⟨x0, x1, BR⟩ := HX.out w4 (ptg hb02 hb4)
        have hbx := BR.bel
        have hCo := HCo.out w4 hb4
        rw [← HEq.out] at hCo
        clear BR hb4 HCo
        have heq : ((ga4 == 0) == (ga4 == 0)) = true := by simp
        go_wp2_with fail
        refine hCo.mono ?_
        rintro r w5 ⟨rfl, hb5⟩
        have hbF := ptg hbx hb5
        clear hCo hb5 hbx x0 x1
        generalize (ga4 == 0) = bq at *
        go_wp2
        go_ret
        exact ⟨rfl, hbF⟩
  · have HO : outAns g v t = [] := by unfold outAns; rw [if_neg e1]
    have d1 : (placeE g v t != 0) = true := by simpa using e1
    rw [HO] at h1
    generalize placeE g v t = n at *
    clear e1 HO HG
    go_enter Try.func4, Try.ntmps4
    go_wp2_with fail
    rw [← hW0]
    refine hgo.mono ?_
    rintro r w1 ⟨rfl, hb1⟩
    obtain ⟨x0, x1, B1⟩ := HX.out w1 hb1
    have g0 := B1.c0
    have g1 := B1.c1
    have g2 := B1.c2
    have hbx := B1.bel
    clear hgo B1
    go_wp2_with fail
    refine (h1 _ hbx).mono ?_
    rintro r w2 ⟨u, rfl, ho2, hb2⟩
    obtain ⟨ao, ca, rfl, hA⟩ := ivAt_of_owns ho2
    have hbF := ptg hbx hb2
    clear g0 g1 g2 x0 x1 hbx h1 hb1 hb2 ho2 hW0 hA
    go_wp2
    go_ret
    exact ⟨rfl, hbF⟩

end Go.Proofs.Ythgelfnflafoiaf
