/-
  The law ProfileReach, walked.
-/
import Derived.Test.YtanbbkoleekmjagPfMat2
import Derived.Test.YtanbbkoleekmjagEqRB
import Derived.Test.YtanbbkoleekmjagPk1
namespace Go.Proofs.Ytanbbkoleekmjag
open Go.RowKit

theorem two_bools (w : World) (T : TypeId) (x y : Bool) : BsAt (w.alloc (.cells #[.bool x, .bool y] T)) (some ⟨w.heap.size, 0, none⟩) [x, y] := by
  refine .inr ⟨_, _, rfl, by simp, fun j hj => ?_⟩
  have hj' : j = 0 ∨ j = 1 := by simp at hj; omega
  rcases hj' with rfl | rfl
  all_goals exact new_cell rfl rfl
theorem reach_len (g : Gr) (s e : Int) (v : Nat) : (reachR g s e v).length = g.lives.length := by simp [reachR, (erF_len g (v : Int) s).1]
theorem reach_get (g : Gr) (s e : Int) (v x : Nat) (hx : x < g.lives.length) : ((reachR g s e v).map Value.bool)[x]? = some (.bool (decide ((erF g (v : Int) s).1.getD x 0 ≤ e))) := by
  have := (erF_len g (v : Int) s).1
  simp [reachR, List.getD_eq_getElem?_getD, this, hx]
/-- one reaches oneself, if one is there -/
theorem reach_self {g : Gr} (R : Right g) {v : Nat} (hv : v < g.lives.length) {s e : Int} (he : e ≤ g.hor) : decide ((erF g (v : Int) s).1.getD v 0 ≤ e) = (aliveB s g.lives (v : Int) && decide (s ≤ e)) := by
  by_cases ha : aliveB s g.lives (v : Int) = true
  · have := (erF_ok R (v := (v : Int)) (by omega) ha).1.at0
    rw [Int.toNat_natCast] at this
    rw [this, ha, Bool.true_and]
  · have e1 : (erF g (v : Int) s).1.getD v 0 = 1099511627776 := by rw [erF_away ha, rep_getD _ _ _ hv]
    have h := R.hor
    rw [Bool.not_eq_true] at ha
    rw [e1, ha, Bool.false_and]
    simp only [decide_eq_false_iff_not]; omega

/-- what Reach tells, said once -/
def ReachOut (w w' : World) (g : Gr) (s e : Int) (r : Ending) : Prop :=
  (reachE g s e ≠ 0 ∧ r = .returned (.tuple #[.slice none 0 0, .int .i64 (reachE g s e)])) ∨
  (reachE g s e = 0 ∧ ∃ go bl, r = .returned (.tuple #[.slice (some ⟨go, 0, none⟩) g.lives.length g.lives.length, .int .i64 0]) ∧ bl.length = g.lives.length ∧ RM w.heap.size 47 4 go g.lives.length g.lives.length w' bl (fun v => (reachR g s e v).map Value.bool))
theorem reachE_zero {g : Gr} {s e : Int} (h : reachE g s e = 0) : gChk g = 0 ∧ (0 ≤ s ∧ s < g.hor) ∧ 0 ≤ e ∧ e < g.hor := by
  unfold reachE at h
  by_cases c : gChk g = 0
  · rw [if_pos c] at h
    by_cases k : inR s 0 (g.hor - 1) = true ∧ inR e 0 (g.hor - 1) = true
    · have h1 := (inR_iff _ _ _).1 k.1
      have h2 := (inR_iff _ _ _).1 k.2
      omega
    · rw [if_neg k] at h; cases h
  · rw [if_neg c] at h; exact absurd h c

set_option maxRecDepth 100000 in
set_option maxHeartbeats 1000000 in
theorem profileReach_walk (g : Gr) (la ea : Option Addr) (lc ec : Nat) (s e e' : Int) (w : World) (hG : GAt w la ea g) :
    Calls Try.prog 5 #[.agg #[.int .i64 g.hor, .slice la g.lives.length lc, .slice ea g.edges.length ec], .int .i64 s, .int .i64 e, .int .i64 e'] w fun r w' => r = .returned (.bool true) ∧ Below w.heap.size w w' := by
  have B0 := gbx_start w g la ea lc ec 25
  have hp := pair_any (w.alloc (.cells #[.int .i64 g.hor, .slice la g.lives.length lc, .slice ea g.edges.length ec] 25))
  have HPo := hideg (fun la' ea' W (hG' : GAt W la' ea' gPair) => pReach_ok gPair la' ea' 2 1 0 4 W hG' pair_reachE)
  have HRw : Hid (∀ base go n h W bl, RM base 47 4 go n h W bl (fun v => (reachR gPair 0 4 v).map Value.bool) → bl.length = 2 → (W.cell? ⟨go, 0, none⟩ = some (.slice (some ⟨bk bl 0, 0, none⟩) h (ck bl 0)) ∧ W.cell? ⟨go, 1, none⟩ = some (.slice (some ⟨bk bl 1, 0, none⟩) h (ck bl 1))) ∧ (h = 2 ∧ BsAt W (some ⟨bk bl 0, 0, none⟩) [true, true] ∧ BsAt W (some ⟨bk bl 1, 0, none⟩) [false, false])) := by
    intro base go n h W bl M hb
    have i0 := M.inn 0 (by omega)
    have i1 := M.inn 1 (by omega)
    have l0 := M.len (v := 0) (by omega)
    simp only [pair_row0, pair_row1] at i0 i1 l0
    have hh : h = 2 := by rw [← l0]; rfl
    obtain ⟨a0, c0, x0, z0⟩ := bsAt_of_owns i0
    obtain ⟨a1, c1, x1, z1⟩ := bsAt_of_owns i1
    simp only [Value.slice.injEq] at x0 x1
    rw [← x0.1] at z0
    rw [← x1.1] at z1
    exact ⟨⟨M.out (by omega), M.out (by omega)⟩, hh, z0, z1⟩
  have HRe : Hid (∀ (x : Int) W, Below w.heap.size w W → Calls Try.prog 16 #[.agg #[.int .i64 g.hor, .slice la g.lives.length lc, .slice ea g.edges.length ec], .int .i64 s, .int .i64 x] W fun r w' => ReachOut W w' g s x r ∧ Below W.heap.size W w') := by
    intro x W hb
    by_cases h : reachE g s x = 0
    · refine (pReach_ok g la ea lc ec s x W (hG.below hb) h).mono ?_
      rintro r w' ⟨go, bl, h1, h2, h3, h4⟩
      exact ⟨.inr ⟨h, go, bl, h1, h2, h3⟩, h4⟩
    · refine (pReach_bad g la ea lc ec s x W (hG.below hb) h).mono ?_
      rintro r w' ⟨h1, h2⟩
      exact ⟨.inl ⟨h, h1⟩, h2⟩
  have HAl : Hid (∀ (x : Nat), x < g.lives.length → ∀ W, Below w.heap.size w W → Calls Try.prog 18 #[.agg #[.int .i64 g.hor, .slice la g.lives.length lc, .slice ea g.edges.length ec], .int .i64 x, .int .i64 s] W fun r w' => r = .returned (.bool (aliveB s g.lives x)) ∧ Below W.heap.size W w') := fun x hx W hb => Alive_any g.hor la ea lc g.edges.length ec g.lives x s W (hG.below hb).lv hx hG.nl
  have HG := hideg hG
  have hgl : gPair.lives.length = 2 := rfl
  clear hG
  generalize gPair = gp at *
  go_enter Try.func5, Try.ntmps5
  go_wp2_with fail
  refine hp.mono ?_
  rintro r w1 ⟨la1, ea1, rfl, hG1, hb1⟩
  have B1 := B0.below hb1
  have hpo := HPo.out _ _ _ hG1
  rw [hgl] at hpo
  rw [hgl]
  clear hp hb1 B0 hG1 HPo hgl
  go_wp2_with fail
  refine hpo.mono ?_
  rintro r w2 ⟨go, bl, rfl, hbl, hM, hb2⟩
  have B2 := B1.below hb2
  obtain ⟨⟨o0, o1⟩, _, z0, z1⟩ := HRw.out _ _ _ _ _ _ hM hbl
  obtain ⟨w3, hw3⟩ : ∃ x, x = w2.alloc (.cells #[.bool true, .bool true] 4) := ⟨_, rfl⟩
  have hb3 : Below w2.heap.size w2 w3 := by rw [hw3]; exact gal w2 _
  have hE0 := EqualBool_any (some ⟨bk bl 0, 0, none⟩) (some ⟨w2.heap.size, 0, none⟩) (ck bl 0) 2 [true, true] [true, true] w3 (z0.below hb3) (by rw [hw3]; exact two_bools w2 _ true true) (by simp)
  rw [show decide ([true, true] = [true, true]) = true from rfl] at hE0
  simp only [List.length_cons, List.length_nil, Nat.zero_add, Nat.reduceAdd] at hE0
  have B3 := B2.below hb3
  have HO1 : Hid (∀ W, Below w2.heap.size w2 W → W.cell? ⟨go, 1, none⟩ = some (.slice (some ⟨bk bl 1, 0, none⟩) 2 (ck bl 1)) ∧ BsAt W (some ⟨bk bl 1, 0, none⟩) [false, false]) := fun W hb => ⟨(hb.cell (p := ⟨go, 1, none⟩) hM.lt.2).trans o1, z1.below hb⟩
  have hw3s := hw3.symm
  have HB23 := hideg hb3
  clear hpo hb2 B1 hM z0 z1 o1 B2 hw3 hb3 hbl HRw
  generalize bk bl 0 = k0 at *
  generalize ck bl 0 = j0 at *
  generalize bk bl 1 = k1 at *
  generalize ck bl 1 = j1 at *
  go_wp2_with fail
  refine hE0.mono ?_
  rintro r w4 ⟨rfl, hb4⟩
  have B4 := B3.below hb4
  have hb24 := ptg HB23.out hb4
  obtain ⟨o1, z1⟩ := HO1.out w4 hb24
  obtain ⟨w5, hw5⟩ : ∃ x, x = w4.alloc (.cells #[.bool false, .bool false] 4) := ⟨_, rfl⟩
  have hb5 : Below w4.heap.size w4 w5 := by rw [hw5]; exact gal w4 _
  have hE1 := EqualBool_any (some ⟨k1, 0, none⟩) (some ⟨w4.heap.size, 0, none⟩) j1 2 [false, false] [false, false] w5 (z1.below hb5) (by rw [hw5]; exact two_bools w4 _ false false) (by simp)
  rw [show decide ([false, false] = [false, false]) = true from rfl] at hE1
  simp only [List.length_cons, List.length_nil, Nat.zero_add, Nat.reduceAdd] at hE1
  have B5 := B4.below hb5
  have hw5s := hw5.symm
  clear hE0 hb4 B3 hw3s o0 HB23 hb24 z1 HO1 hw5 hb5 B4
  go_wp2_with fail
  refine hE1.mono ?_
  rintro r w6 ⟨rfl, hb6⟩
  have B6 := B5.below hb6
  clear hE1 hb6 B5 hw5s o1
  have g0 := B6.c0
  have g1 := B6.c1
  have g2 := B6.c2
  obtain ⟨lo, hlo⟩ : ∃ lo, min e e' = lo := ⟨_, rfl⟩
  obtain ⟨hi, hhi⟩ : ∃ hi, max e e' = hi := ⟨_, rfl⟩
  have HLH : Hid (lo ≤ hi) := by show _ ≤ _; omega
  go_wp2_with fail
  refine (HRe.out lo _ B6.bel).mono ?_
  rintro r w7 ⟨hO7, hb7⟩
  have B7 := B6.below hb7
  clear hb7 B6 g0 g1 g2
  rcases hO7 with ⟨hn7, rfl⟩ | ⟨hn7, go7, bl7, rfl, hbl7, hM7⟩
  · have g0 := B7.c0
    have g1 := B7.c1
    have g2 := B7.c2
    have d7 : (reachE g s lo != 0) = true := by simpa using hn7
    generalize reachE g s lo = n7 at *
    go_wp2_with fail
    refine (HRe.out hi _ B7.bel).mono ?_
    rintro r w8 ⟨hO8, hb8⟩
    have hbF := (B7.below hb8).bel
    clear hb8 B7 g0 g1 g2 HRe HAl HG
    rcases hO8 with ⟨_, rfl⟩ | ⟨_, go8, bl8, rfl, _, _⟩
    all_goals
      go_wp2
      go_ret
      exact ⟨rfl, hbF⟩
  · have g0 := B7.c0
    have g1 := B7.c1
    have g2 := B7.c2
    go_wp2_with fail
    refine (HRe.out hi _ B7.bel).mono ?_
    rintro r w8 ⟨hO8, hb8⟩
    have B8 := B7.below hb8
    have hM7 := hM7.below hb8
    clear hb8 B7 g0 g1 g2 HRe
    rcases hO8 with ⟨hn8, rfl⟩ | ⟨hn8, go8, bl8, rfl, hbl8, hM8⟩
    · have d8 : (reachE g s hi != 0) = true := by simpa using hn8
      have hbF := B8.bel
      generalize reachE g s hi = n8 at *
      clear HAl HG hM7 B8 hn8
      by_cases hl0 : g.lives.length = 0
      · have dl : ((g.lives.length : Int) == 0) = true := by simpa using hl0
        clear hl0
        go_wp2
        go_ret
        exact ⟨rfl, hbF⟩
      · have dl : ((g.lives.length : Int) == 0) = false := by simpa using hl0
        clear hl0
        go_wp2
        go_ret
        exact ⟨rfl, hbF⟩
    · obtain ⟨h0, hs1, hlo1⟩ := reachE_zero hn7
      have hR := gChk_right h0
      have hl12 := hR.lvs
      have HSelf := hideg (fun (x : Nat) (hx : x < g.lives.length) => reach_self hR hx (s := s) (e := lo) (by omega))
      have HM7 := hideg hM7
      have HM8 := hideg hM8
      have HB8 := hideg B8
      have HL7 := hideg hbl7
      have HL8 := hideg hbl8
      clear hM7 hM8 B8 hbl7 hbl8 hn7 hn8 h0 hR
      go_wp2_with fail
      go_loopw [79] (fun i wr => ∃ k : Nat, k ≤ g.lives.length ∧ i = .int .i64 (k : Int) ∧ Below w8.heap.size w8 wr) (fun i _ => g.lives.length - (intOf i).toNat)
      case atStart => exact ⟨0, Nat.zero_le _, rfl, Below.refl _ _⟩
      case round =>
        obtain ⟨k, hk, rfl, hb⟩ := hrel
        by_cases hkl : k < g.lives.length
        · have hki : (k : Int) < (g.lives.length : Int) := by omega
          have hkw : IntKind.i64.wrap ((k : Int) + 1) = (k : Int) + 1 := wrap_nj _ (by omega) (by omega)
          have BR := HB8.out.below hb
          have M7 := HM7.out.below hb
          have M8 := HM8.out.below hb
          have k7 : k < bl7.length := by rw [HL7.out]; exact hkl
          have k8 : k < bl8.length := by rw [HL8.out]; exact hkl
          have o7 := M7.out k7
          have x7 := M7.cell k7 hkl
          rw [reach_get g s lo k k hkl, HSelf.out k hkl] at x7
          have HC : Hid (∀ W, Below wr.heap.size wr W → (W.cell? ⟨go7, k, none⟩ = some (.slice (some ⟨bk bl7 k, 0, none⟩) g.lives.length (ck bl7 k)) ∧ W.cell? ⟨go8, k, none⟩ = some (.slice (some ⟨bk bl8 k, 0, none⟩) g.lives.length (ck bl8 k))) ∧ ∀ x : Nat, x < g.lives.length → W.cell? ⟨bk bl7 k, x, none⟩ = some (.bool (decide ((erF g (k : Int) s).1.getD x 0 ≤ lo))) ∧ W.cell? ⟨bk bl8 k, x, none⟩ = some (.bool (decide ((erF g (k : Int) s).1.getD x 0 ≤ hi)))) := by
            intro W hW
            refine ⟨⟨(M7.below hW).out k7, (M8.below hW).out k8⟩, fun x hx => ⟨?_, ?_⟩⟩
            · rw [(M7.below hW).cell k7 hx, reach_get g s lo k x hx]
            · rw [(M8.below hW).cell k8 hx, reach_get g s hi k x hx]
          have l7 := M7.lt.2
          have l7' := (M7.ltI k7).2
          have f0 : ∀ q : HeldIn wr, q.w.cell? ⟨go7, k, none⟩ = some (.slice (some ⟨bk bl7 k, 0, none⟩) g.lives.length (ck bl7 k)) := fun q => (q.h.cell (p := ⟨go7, k, none⟩) l7).trans o7
          have HA := hideg (fun q : HeldIn wr => HAl.out k hkl q.w (BR.below q.h).bel)
          have f2 : ∀ q : HeldIn wr, q.w.cell? ⟨w.heap.size, 0, none⟩ = some (.int .i64 g.hor) := fun q => (BR.below q.h).c0
          have f3 : ∀ q : HeldIn wr, q.w.cell? ⟨w.heap.size, 1, none⟩ = some (.slice la g.lives.length lc) := fun q => (BR.below q.h).c1
          have f4 : ∀ q : HeldIn wr, q.w.cell? ⟨w.heap.size, 2, none⟩ = some (.slice ea g.edges.length ec) := fun q => (BR.below q.h).c2
          have hne : Nonempty (HeldIn wr) := ⟨⟨wr, Below.refl _ _⟩⟩
          have HBb := hideg hb
          have hcase : aliveB s g.lives (k : Int) = false ∨ (aliveB s g.lives (k : Int) = true ∧ s ≤ lo) ∨ (aliveB s g.lives (k : Int) = true ∧ ¬ s ≤ lo) := by
            cases ha : aliveB s g.lives (k : Int)
            · exact .inl rfl
            · by_cases h : s ≤ lo
              · exact .inr (.inl ⟨rfl, h⟩)
              · exact .inr (.inr ⟨rfl, h⟩)
          clear M7 M8 BR o7 hb
          obtain ⟨wo, hwo⟩ : ∃ x, x = wr := ⟨_, rfl⟩
          subst hwo
          generalize bk bl7 k = r7 at *
          generalize ck bl7 k = j7 at *
          generalize bk bl8 k = r8 at *
          generalize ck bl8 k = j8 at *
          rcases hcase with ha | ⟨ha, hsl⟩ | ⟨ha, hsl⟩
          · rw [ha, Bool.false_and] at x7
            have f1 := fun q : HeldIn wo => (q.h.cell (p := ⟨r7, k, none⟩) l7').trans x7
            have HA1 := hideg (fun q : HeldIn wo => by have h := HA.out q; rw [ha] at h; exact h)
            clear HA x7 ha
            go_wp2_with fail
            refine wp_region_held wo (Below.refl _ _) (by kernel_rfl) (by kernel_rfl) ?_
            repeat (go_big_quiet_step ((go_at_call 18; exact held_of (HA1.out _))))
            refine wpQuiet_nil ?_
            rintro _ ⟨q, rfl⟩
            have hbq := q.h
            generalize q.w = wq at hbq ⊢
            obtain ⟨⟨o7, o8⟩, _⟩ := HC.out wq hbq
            clear f0 f1 f2 f3 f4 hne HA1
            go_wp2_with fail
            clear o7 o8
            go_loopw [106] (fun i wr => ∃ j : Nat, j ≤ g.lives.length ∧ i = .int .i64 (j : Int) ∧ Below wo.heap.size wo wr) (fun i _ => g.lives.length - (intOf i).toNat)
            case atStart => exact ⟨0, Nat.zero_le _, rfl, hbq⟩
            case round =>
              clear hbq
              obtain ⟨j, hj, rfl, hb⟩ := hrel
              by_cases hjl : j < g.lives.length
              · have hji : (j : Int) < (g.lives.length : Int) := by omega
                have hjw : IntKind.i64.wrap ((j : Int) + 1) = (j : Int) + 1 := wrap_nj _ (by omega) (by omega)
                obtain ⟨⟨o7, o8⟩, hx⟩ := HC.out wr hb
                obtain ⟨x7, x8⟩ := hx j hjl
                have HBj := hideg hb
                clear hx hb
                by_cases hxl : (erF g (k : Int) s).1.getD j 0 ≤ lo
                · have hxh : (erF g (k : Int) s).1.getD j 0 ≤ hi := Int.le_trans hxl HLH.out
                  rw [decide_eq_true hxl] at x7
                  rw [decide_eq_true hxh] at x8
                  clear hxl hxh
                  go_wp2
                  go_roundw
                  case rel => exact ⟨j + 1, by omega, by go_num, HBj.out⟩
                  case measure => simp [intOf]; omega
                · rw [decide_eq_false hxl] at x7
                  clear hxl x8
                  go_wp2
                  go_roundw
                  case rel => exact ⟨j + 1, by omega, by go_num, HBj.out⟩
                  case measure => simp [intOf]; omega
              · have hjn : ¬ ((j : Int) < (g.lives.length : Int)) := by omega
                have HBo := hideg (HBb.out.trans (hb.mono HBb.out.size))
                clear hb
                go_wp2
                go_roundw
                case rel => exact ⟨k + 1, by omega, by go_num, HBo.out⟩
                case measure => simp [intOf]; omega
          · rw [ha, Bool.true_and, decide_eq_true hsl] at x7
            have f1 := fun q : HeldIn wo => (q.h.cell (p := ⟨r7, k, none⟩) l7').trans x7
            have HA1 := hideg (fun q : HeldIn wo => by have h := HA.out q; rw [ha] at h; exact h)
            clear HA x7 ha
            go_wp2_with fail
            refine wp_region_held wo (Below.refl _ _) (by kernel_rfl) (by kernel_rfl) ?_
            repeat (go_big_quiet_step ((go_at_call 18; exact held_of (HA1.out _))))
            refine wpQuiet_nil ?_
            rintro _ ⟨q, rfl⟩
            have hbq := q.h
            generalize q.w = wq at hbq ⊢
            obtain ⟨⟨o7, o8⟩, _⟩ := HC.out wq hbq
            clear f0 f1 f2 f3 f4 hne HA1
            go_wp2_with fail
            clear o7 o8
            go_loopw [106] (fun i wr => ∃ j : Nat, j ≤ g.lives.length ∧ i = .int .i64 (j : Int) ∧ Below wo.heap.size wo wr) (fun i _ => g.lives.length - (intOf i).toNat)
            case atStart => exact ⟨0, Nat.zero_le _, rfl, hbq⟩
            case round =>
              clear hbq
              obtain ⟨j, hj, rfl, hb⟩ := hrel
              by_cases hjl : j < g.lives.length
              · have hji : (j : Int) < (g.lives.length : Int) := by omega
                have hjw : IntKind.i64.wrap ((j : Int) + 1) = (j : Int) + 1 := wrap_nj _ (by omega) (by omega)
                obtain ⟨⟨o7, o8⟩, hx⟩ := HC.out wr hb
                obtain ⟨x7, x8⟩ := hx j hjl
                have HBj := hideg hb
                clear hx hb
                by_cases hxl : (erF g (k : Int) s).1.getD j 0 ≤ lo
                · have hxh : (erF g (k : Int) s).1.getD j 0 ≤ hi := Int.le_trans hxl HLH.out
                  rw [decide_eq_true hxl] at x7
                  rw [decide_eq_true hxh] at x8
                  clear hxl hxh
                  go_wp2
                  go_roundw
                  case rel => exact ⟨j + 1, by omega, by go_num, HBj.out⟩
                  case measure => simp [intOf]; omega
                · rw [decide_eq_false hxl] at x7
                  clear hxl x8
                  go_wp2
                  go_roundw
                  case rel => exact ⟨j + 1, by omega, by go_num, HBj.out⟩
                  case measure => simp [intOf]; omega
              · have hjn : ¬ ((j : Int) < (g.lives.length : Int)) := by omega
                have HBo := hideg (HBb.out.trans (hb.mono HBb.out.size))
                clear hb
                go_wp2
                go_roundw
                case rel => exact ⟨k + 1, by omega, by go_num, HBo.out⟩
                case measure => simp [intOf]; omega
          · rw [ha, Bool.true_and, decide_eq_false hsl] at x7
            have f1 := fun q : HeldIn wo => (q.h.cell (p := ⟨r7, k, none⟩) l7').trans x7
            have HA1 := hideg (fun q : HeldIn wo => by have h := HA.out q; rw [ha] at h; exact h)
            clear HA x7 ha
            go_wp2_with fail
            refine wp_region_held wo (Below.refl _ _) (by kernel_rfl) (by kernel_rfl) ?_
            repeat (go_big_quiet_step ((go_at_call 18; exact held_of (HA1.out _))))
            refine wpQuiet_nil ?_
            rintro _ ⟨q, rfl⟩
            have hbq := q.h
            generalize q.w = wq at hbq ⊢
            obtain ⟨⟨o7, o8⟩, _⟩ := HC.out wq hbq
            clear f0 f1 f2 f3 f4 hne HA1
            go_wp2_with fail
            clear o7 o8
            go_loopw [106] (fun i wr => ∃ j : Nat, j ≤ g.lives.length ∧ i = .int .i64 (j : Int) ∧ Below wo.heap.size wo wr) (fun i _ => g.lives.length - (intOf i).toNat)
            case atStart => exact ⟨0, Nat.zero_le _, rfl, hbq⟩
            case round =>
              clear hbq
              obtain ⟨j, hj, rfl, hb⟩ := hrel
              by_cases hjl : j < g.lives.length
              · have hji : (j : Int) < (g.lives.length : Int) := by omega
                have hjw : IntKind.i64.wrap ((j : Int) + 1) = (j : Int) + 1 := wrap_nj _ (by omega) (by omega)
                obtain ⟨⟨o7, o8⟩, hx⟩ := HC.out wr hb
                obtain ⟨x7, x8⟩ := hx j hjl
                have HBj := hideg hb
                clear hx hb
                by_cases hxl : (erF g (k : Int) s).1.getD j 0 ≤ lo
                · have hxh : (erF g (k : Int) s).1.getD j 0 ≤ hi := Int.le_trans hxl HLH.out
                  rw [decide_eq_true hxl] at x7
                  rw [decide_eq_true hxh] at x8
                  clear hxl hxh
                  go_wp2
                  go_roundw
                  case rel => exact ⟨j + 1, by omega, by go_num, HBj.out⟩
                  case measure => simp [intOf]; omega
                · rw [decide_eq_false hxl] at x7
                  clear hxl x8
                  go_wp2
                  go_roundw
                  case rel => exact ⟨j + 1, by omega, by go_num, HBj.out⟩
                  case measure => simp [intOf]; omega
              · have hjn : ¬ ((j : Int) < (g.lives.length : Int)) := by omega
                have HBo := hideg (HBb.out.trans (hb.mono HBb.out.size))
                clear hb
                go_wp2
                go_roundw
                case rel => exact ⟨k + 1, by omega, by go_num, HBo.out⟩
                case measure => simp [intOf]; omega
        · have hkn : ¬ ((k : Int) < (g.lives.length : Int)) := by omega
          have hbF := (HB8.out.below hb).bel
          clear hb
          go_wp2
          go_ret
          exact ⟨rfl, hbF⟩

end Go.Proofs.Ytanbbkoleekmjag
